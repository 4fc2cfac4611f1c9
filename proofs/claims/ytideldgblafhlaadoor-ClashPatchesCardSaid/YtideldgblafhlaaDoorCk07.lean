/- The statements' Light of layer 12. -/
import Derived.Lib.SlicesCompact
import Derived.Test.YtideldgblafhlaaDoorProg
import Derived.WalkKit
import Derived.WalkSpells
import Derived.Handy
import Derived.Lib.Hide
import Derived.Shelf.Strings.BuilderK
import Derived.Deep.CutRange
import Derived.Test.YtideldgblafhlaaDoorCk06
namespace Go.Proofs.YtideldgblafhlaaDoor
open Go.RowKit
set_option linter.unusedVariables false

/-- An operation that comes in: none of its texts is larger than memory. -/
structure Om.In (x : Om) : Prop where
  name : x.name.size ≤ 140737488351232
  dname : x.dname.size ≤ 140737488351232
  self : x.self.p.size ≤ 140737488351232
  parent : x.parent.p.size ≤ 140737488351232
  dst : x.dst.p.size ≤ 140737488351232
  left : x.left.p.size ≤ 140737488351232
  right : x.right.p.size ≤ 140737488351232
  few : x.dels.length ≤ 9223372036854775807
  rows : x.lines.length ≤ 9223372036854775807
/-- An operation that is not far too large. -/
structure Om.Lt (x : Om) : Prop where
  name : x.name.size ≤ 400
  dname : x.dname.size ≤ 400
  self : x.self.p.size ≤ 400
  parent : x.parent.p.size ≤ 400
  dst : x.dst.p.size ≤ 400
  left : x.left.p.size ≤ 400
  right : x.right.p.size ≤ 400
  few : x.dels.length ≤ 40
  lines : light3B (toBs x.lines) = true
  dels : ∀ i ∈ x.dels, i.p.size ≤ 100
theorem light3k_any (A : Option Addr) (l : List (List UInt8)) (c : Nat) (w : World) (hs : Strs w w.heap.size A (toBs l)) (hn : l.length ≤ 9223372036854775807) (r : Bool) (hr : light3B (toBs l) = r) :
    Calls Tryd.prog 29 #[.slice A l.length c] w fun e w' => e = .returned (.bool r) ∧ w = w' := by
  have h := light3_any A (toBs l) c w hs (by rw [toBs_len]; exact hn)
  rw [toBs_len, hr] at h
  exact h
theorem elem_ops : Tryd.prog.elem 29 = 27 := by kernel_rfl
theorem ops_und : Tryd.prog.underlying 29 = some (.slice (Tryd.prog.elem 29)) := by
  rw [elem_ops]
  exact Tryd.underlying29
theorem size_op (W : World) : (sizeOf 27).run Tryd.prog W = .ok 16 W := by
  cases h : Tryd.prog.info? 27 with
  | some i =>
    have h2 := sized_op
    rw [h] at h2
    simp only [Option.map_some, Option.some.injEq] at h2
    simp [sizeOf, typeInfo, h, h2, Sem.run_bind]
  | none => exact absurd h (by have h2 : (Tryd.prog.info? 27).isSome = true := by kernel_rfl
                               intro h3; rw [h3] at h2; cases h2)
theorem op_indexAt {A : Option Addr} {b off n c k : Nat} (e : A = some ⟨b, off, none⟩) (hk : k < n) (W : World) : (Instr.indexAt 29 (.slice A n c) (.int .i64 (k : Int))).run Tryd.prog W = .ok (.pointer (some ⟨b, off + k * 16, none⟩)) W := by
  subst e
  rw [run_indexAt_slice (h := ops_und), if_pos (by omega), elem_ops, size_op, Result.andThen_ok]
  have e2 : (⟨b, off, none⟩ : Addr).add ((k : Int).toNat * 16) = ⟨b, off + k * 16, none⟩ := by unfold Addr.add; split <;> simp_all
  rw [e2]
/-- What Light tells. -/
def LightNLeft (l : List Om) (w : World) (e : Ending) (w' : World) : Prop := ∃ r : Bool, e = .returned (.bool r) ∧ Hid (r = true → l.length ≤ 40 ∧ ∀ x ∈ l, x.Lt) ∧ Below w.heap.size w w'
set_option maxHeartbeats 8000000 in
set_option maxRecDepth 100000 in
theorem light12n_any (A : Option Addr) (l : List Om) (cap : Nat) (w : World) (hs : Ops w w.heap.size A l) (hi : ∀ x ∈ l, x.In) (hn : l.length ≤ 9223372036854775807) :
    Calls Tryd.prog 16 #[.slice A l.length cap] w (LightNLeft l w) := by
  have HS := Lib.hid hs
  have HI := Lib.hid hi
  clear hs hi
  go_enter Tryd.func16, Tryd.ntmps16
  go_wp2
  go_loopw [3] (fun i wr => ∃ k : Nat, k ≤ l.length ∧ i = .int .i64 (k : Int) ∧ Hid (∀ j (hj : j < l.length), j < k → l[j].Lt) ∧ Hid (Below w.heap.size w wr)) (fun i _ => l.length - (intOf i).toNat)
  case atStart => exact ⟨0, Nat.zero_le _, rfl, fun j _ h => absurd h (by omega), Below.refl _ _⟩
  case round =>
    obtain ⟨k, hk, rfl, hall, hbr⟩ := hrel
    by_cases hlt : k < l.length
    · have hS := HS.out.on hbr.out
      obtain ⟨b, off, eA, _, hc⟩ := hS.1.get hlt
      have hox := hS.2 _ (List.getElem_mem hlt)
      have hin := HI.out _ (List.getElem_mem hlt)
      have IA := op_indexAt (c := cap) eA hlt
      have HNX : Hid (l[k].Lt → ∀ j (hj : j < l.length), j < k + 1 → l[j].Lt) := fun h j hj hjk => by
        by_cases e : j = k
        · subst e; exact h
        · exact hall.out j hj (by omega)
      have u0 : (0 : Int) ≤ (k : Int) := by omega
      have u1 : (k : Int) < (l.length : Int) := by omega
      clear hS eA hall
      generalize l[k] = x at *
      have RX : wr.rangeAt b (off + k * 16) [.int .i64 x.kind, .string x.self.p, .int .i64 x.self.n, .string x.parent.p, .int .i64 x.parent.n, .string x.dst.p, .int .i64 x.dst.n, .string x.name, .string x.dname, .string x.left.p, .int .i64 x.left.n, .string x.right.p, .int .i64 x.right.n, .slice x.a1 x.dels.length x.c1, .int .i64 x.first, .slice x.a2 x.lines.length x.c2] := fun j v hv => hc j v hv
      obtain ⟨hbx, hX⟩ := op_box wr x
      have HX := Lib.hid hX
      have OX := Lib.hid (hox.on hbx)
      have HB := Lib.hid (hbr.out.trans (hbx.mono hbr.out.size))
      have HIN := Lib.hid hin
      clear hc hox hbx hX hbr hin
      -- @P1
      go_upto_region 5 with (refine wpList_load_mid rfl 27 _ rfl b (off + k * 16) rfl [.int .i64 x.kind, .string x.self.p, .int .i64 x.self.n, .string x.parent.p, .int .i64 x.parent.n, .string x.dst.p, .int .i64 x.dst.n, .string x.name, .string x.dname, .string x.left.p, .int .i64 x.left.n, .string x.right.p, .int .i64 x.right.n, .slice x.a1 x.dels.length x.c1, .int .i64 x.first, .slice x.a2 x.lines.length x.c2] _ RX Tryd.underlying27 rfl (by kernel_rfl) ?_)
      generalize (wr.alloc (.cells #[.int .i64 x.kind, .string x.self.p, .int .i64 x.self.n, .string x.parent.p, .int .i64 x.parent.n, .string x.dst.p, .int .i64 x.dst.n, .string x.name, .string x.dname, .string x.left.p, .int .i64 x.left.n, .string x.right.p, .int .i64 x.right.n, .slice x.a1 x.dels.length x.c1, .int .i64 x.first, .slice x.a2 x.lines.length x.c2] 27)) = wx at *
      -- @P2
      have hin := HIN.out
      have oc := op_cells HX.out
      have c_dels := oc.dels
      have c_lines := oc.lines
      have c_name := oc.name
      have c_dname := oc.dname
      have c_selfp := oc.selfp
      have c_parentp := oc.parentp
      have c_dstp := oc.dstp
      have c_leftp := oc.leftp
      have c_rightp := oc.rightp
      clear oc RX IA
      by_cases h1 : 40 < x.dels.length
      · have q1 : (x.dels.length : Int) > 40 := by omega
        have HV : Hid (false = true → l.length ≤ 40 ∧ ∀ x ∈ l, x.Lt) := fun h => by cases h
        clear HNX hin
        go_wp2
        go_ret
        exact ⟨false, rfl, HV, HB.out⟩
      have q1 : ¬ (x.dels.length : Int) > 40 := by omega
      cases h2 : light3B (toBs x.lines)
      · have CL := Lib.hid (light3k_any x.a2 x.lines x.c2 wx OX.out.lines hin.rows false h2)
        have HV : Hid (false = true → l.length ≤ 40 ∧ ∀ x ∈ l, x.Lt) := fun h => by cases h
        clear HNX hin
        go_wp2_with fail
        refine CL.out.mono ?_
        rintro e w1 ⟨rfl, hw⟩
        subst hw
        go_wp2
        go_ret
        exact ⟨false, rfl, HV, HB.out⟩
      have CL := Lib.hid (light3k_any x.a2 x.lines x.c2 wx OX.out.lines hin.rows true h2)
      have hi1 := hin.name
      have hi2 := hin.dname
      have hi3 := hin.self
      have hi4 := hin.parent
      have hi5 := hin.dst
      have hi6 := hin.left
      have hi7 := hin.right
      have g0 : IntKind.i64.wrap (((x.name.size : Nat) : Int) + ((x.dname.size : Nat) : Int)) = ((x.name.size : Nat) : Int) + ((x.dname.size : Nat) : Int) := IntWalk.i64_in _ (by omega)
      have g1 : IntKind.i64.wrap ((((x.name.size : Nat) : Int) + ((x.dname.size : Nat) : Int)) + ((x.self.p.size : Nat) : Int)) = (((x.name.size : Nat) : Int) + ((x.dname.size : Nat) : Int)) + ((x.self.p.size : Nat) : Int) := IntWalk.i64_in _ (by omega)
      have g2 : IntKind.i64.wrap (((((x.name.size : Nat) : Int) + ((x.dname.size : Nat) : Int)) + ((x.self.p.size : Nat) : Int)) + ((x.parent.p.size : Nat) : Int)) = ((((x.name.size : Nat) : Int) + ((x.dname.size : Nat) : Int)) + ((x.self.p.size : Nat) : Int)) + ((x.parent.p.size : Nat) : Int) := IntWalk.i64_in _ (by omega)
      have g3 : IntKind.i64.wrap ((((((x.name.size : Nat) : Int) + ((x.dname.size : Nat) : Int)) + ((x.self.p.size : Nat) : Int)) + ((x.parent.p.size : Nat) : Int)) + ((x.dst.p.size : Nat) : Int)) = (((((x.name.size : Nat) : Int) + ((x.dname.size : Nat) : Int)) + ((x.self.p.size : Nat) : Int)) + ((x.parent.p.size : Nat) : Int)) + ((x.dst.p.size : Nat) : Int) := IntWalk.i64_in _ (by omega)
      have g4 : IntKind.i64.wrap (((((((x.name.size : Nat) : Int) + ((x.dname.size : Nat) : Int)) + ((x.self.p.size : Nat) : Int)) + ((x.parent.p.size : Nat) : Int)) + ((x.dst.p.size : Nat) : Int)) + ((x.left.p.size : Nat) : Int)) = ((((((x.name.size : Nat) : Int) + ((x.dname.size : Nat) : Int)) + ((x.self.p.size : Nat) : Int)) + ((x.parent.p.size : Nat) : Int)) + ((x.dst.p.size : Nat) : Int)) + ((x.left.p.size : Nat) : Int) := IntWalk.i64_in _ (by omega)
      have g5 : IntKind.i64.wrap ((((((((x.name.size : Nat) : Int) + ((x.dname.size : Nat) : Int)) + ((x.self.p.size : Nat) : Int)) + ((x.parent.p.size : Nat) : Int)) + ((x.dst.p.size : Nat) : Int)) + ((x.left.p.size : Nat) : Int)) + ((x.right.p.size : Nat) : Int)) = (((((((x.name.size : Nat) : Int) + ((x.dname.size : Nat) : Int)) + ((x.self.p.size : Nat) : Int)) + ((x.parent.p.size : Nat) : Int)) + ((x.dst.p.size : Nat) : Int)) + ((x.left.p.size : Nat) : Int)) + ((x.right.p.size : Nat) : Int) := IntWalk.i64_in _ (by omega)
      clear hi1 hi2 hi3 hi4 hi5 hi6 hi7
      by_cases h3 : ((((((((x.name.size : Nat) : Int) + ((x.dname.size : Nat) : Int)) + ((x.self.p.size : Nat) : Int)) + ((x.parent.p.size : Nat) : Int)) + ((x.dst.p.size : Nat) : Int)) + ((x.left.p.size : Nat) : Int)) + ((x.right.p.size : Nat) : Int)) > 400
      · have HV : Hid (false = true → l.length ≤ 40 ∧ ∀ x ∈ l, x.Lt) := fun h => by cases h
        clear HNX hin
        go_wp2_with fail
        refine CL.out.mono ?_
        rintro e w1 ⟨rfl, hw⟩
        subst hw
        go_wp2
        go_ret
        exact ⟨false, rfl, HV, HB.out⟩
      have HNX2 : Hid ((∀ i ∈ x.dels, i.p.size ≤ 100) → ∀ j (hj : j < l.length), j < k + 1 → l[j].Lt) := fun h => HNX.out ⟨by omega, by omega, by omega, by omega, by omega, by omega, by omega, by omega, h2, h⟩
      clear HNX hin
      -- @P3
      go_wp2_with fail
      refine CL.out.mono ?_
      rintro e w1 ⟨rfl, hw⟩
      subst hw
      clear CL
      have h4 : x.dels.length ≤ 40 := by omega
      go_upto_region 7 with (fail)
      clear g0 g1 g2 g3 g4 g5 h3 c_name c_dname c_selfp c_parentp c_dstp c_leftp c_rightp c_lines q1 h2 h1 c_dels
      -- @P4
      have HG0 : Hid (Below wx.heap.size wx wx) := Below.refl _ _
      go_wp2
      go_loopw [5] (fun i w2 => ∃ q : Nat, q ≤ x.dels.length ∧ i = .int .i64 (q : Int) ∧ Hid (∀ j (hj : j < x.dels.length), j < q → x.dels[j].p.size ≤ 100) ∧ Hid (Below wx.heap.size wx w2)) (fun i _ => x.dels.length - (intOf i).toNat)
      case atStart => exact ⟨0, Nat.zero_le _, rfl, fun j _ h => absurd h (by omega), HG0.out⟩
      case round =>
        clear HG0
        obtain ⟨q, hq, rfl, hdl, hb2⟩ := hrel
        have c_dels := (op_cells (HX.out.on hb2.out)).dels
        have HB2 := Lib.hid (HB.out.trans (hb2.out.mono HB.out.size))
        by_cases hql : q < x.dels.length
        · obtain ⟨bd, od, eD, _, d0, d1⟩ := ids_get (OX.out.dels.on hb2.out) hql
          have ID := id_indexAt (c := x.c1) eD hql
          have v0 : (0 : Int) ≤ (q : Int) := by omega
          have v1 : (q : Int) < (x.dels.length : Int) := by omega
          have hcase : (100 < x.dels[q].p.size) ∨ (x.dels[q].p.size ≤ 100 ∧ Hid (∀ j (hj : j < x.dels.length), j < q + 1 → x.dels[j].p.size ≤ 100)) := by
            by_cases e : 100 < x.dels[q].p.size
            · exact .inl e
            · refine .inr ⟨by omega, fun j hj hjq => ?_⟩
              by_cases ej : j = q
              · subst ej; omega
              · exact hdl.out j hj (by omega)
          have HBW : Hid (Below wx.heap.size wx wr) := hb2
          clear eD hdl hb2 d1
          generalize x.dels[q] = y at *
          -- @P5
          rcases hcase with hbig | ⟨hsm, HD2⟩
          · have qb : (y.p.size : Int) > 100 := by omega
            have HV : Hid (false = true → l.length ≤ 40 ∧ ∀ x ∈ l, x.Lt) := fun h => by cases h
            clear HNX2
            go_wp2
            go_ret
            exact ⟨false, rfl, HV, HB2.out⟩
          · have qb : ¬ (y.p.size : Int) > 100 := by omega
            go_wp2
            go_roundw
            case rel => exact ⟨q + 1, by omega, by go_num, HD2, HBW⟩
            case measure => simp [intOf]; omega
        · have hqe : q = x.dels.length := by omega
          have v1 : ¬ (q : Int) < (x.dels.length : Int) := by omega
          have HNEW : Hid (∀ j (hj : j < l.length), j < k + 1 → l[j].Lt) := HNX2.out fun i hi => by
            obtain ⟨j, hj, rfl⟩ := List.getElem_of_mem hi
            exact hdl.out j hj (by omega)
          clear HNX2 hdl hb2 hqe
          go_wp2
          go_roundw
          case rel => exact ⟨k + 1, by omega, by go_num, HNEW, HB2⟩
          case measure => simp [intOf]; omega
    · obtain rfl : k = l.length := by omega
      have HA : Hid (∀ x ∈ l, x.Lt) := fun x hx => by
        obtain ⟨j, hj, rfl⟩ := List.getElem_of_mem hx
        exact hall.out j hj hj
      by_cases h40 : l.length ≤ 40
      · have hv : (l.length : Int) ≤ 40 := by omega
        have HV : Hid (l.length ≤ 40 ∧ ∀ x ∈ l, x.Lt) := ⟨h40, HA.out⟩
        clear hall HA h40
        go_wp2
        go_ret
        exact ⟨true, rfl, fun _ => HV.out, hbr.out⟩
      · have hv : ¬ (l.length : Int) ≤ 40 := by omega
        have HV : Hid (false = true → l.length ≤ 40 ∧ ∀ x ∈ l, x.Lt) := fun h => by cases h
        clear hall HA h40
        go_wp2
        go_ret
        exact ⟨false, rfl, HV, hbr.out⟩
end Go.Proofs.YtideldgblafhlaaDoor
