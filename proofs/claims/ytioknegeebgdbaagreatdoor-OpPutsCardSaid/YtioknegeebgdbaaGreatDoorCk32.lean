/- Words for memory: strings that lie in a row; rows that a call made. Rows of records of any kind, each of some cells: as they lie, as a call makes them: append, parts. The statements' Light of layer 3 (other layers call it too). The statements' Light of layer 12. -/
import Derived.WalkKit
import Derived.Below
import Derived.Laws.AppendOwn
import Derived.Lib.OwnBridge
import Derived.Lib.Hide
import Derived.Sort.Walk0
import Derived.Shelf.GgClosure.Gives
import Derived.Test.YtioknegeebgdbaaGreatDoorProg
import Derived.Deep.AppendLies
import Derived.BigQuiet
import Derived.Deep.QuietTactic
import Derived.Handy
import Derived.Deep.CutRange
import Derived.Test.YtioknegeebgdbaaGreatDoorCk25
namespace Go.Proofs.YtioknegeebgdbaaGreatDoor
open Go.RowKit
set_option linter.unusedVariables false

theorem toBs_lists (ss : List ByteArray) : toBs (lists ss) = ss := by
  unfold toBs lists
  rw [List.map_map]
  exact (List.map_congr_left fun s _ => toB_of s).trans (List.map_id _)
section
variable {w w' : World} {B B' : Nat} {A : Option Addr} {ss : List ByteArray}
end

end Go.Proofs.YtioknegeebgdbaaGreatDoor
namespace Go.Proofs.YtioknegeebgdbaaGreatDoor
open Go.RowKit
set_option linter.unusedVariables false

theorem rec_cell_lt {w : World} {b o : Nat} {u : Value} (h : w.cell? ⟨b, o, none⟩ = some u) : b < w.heap.size := by
  unfold World.cell? at h
  rcases Nat.lt_or_ge b w.heap.size with h2 | h2
  · exact h2
  · rw [Array.getElem?_eq_none h2] at h; simp at h
namespace Rk
variable {α : Type} (R : Rk α)
variable {R} {w w' w0 : World} {B B' : Nat} {A : Option Addr} {l : List α} {v : Value}
variable {g : Nat} {x : α}
end Rk
end Go.Proofs.YtioknegeebgdbaaGreatDoor
namespace Go.Proofs.YtioknegeebgdbaaGreatDoor
open Go.RowKit
set_option linter.unusedVariables false

/-- Texts that are not far too many. -/
def light3B (ss : List ByteArray) : Bool := ss.all (fun s => decide (s.size ≤ 300)) && decide (ss.length ≤ 60)
theorem light3B_no {ss : List ByteArray} {k : Nat} (hk : k < ss.length) (h : 300 < ss[k].size) : light3B ss = false := by
  have : ¬ ss.all (fun s => decide (s.size ≤ 300)) = true := by
    rw [List.all_eq_true]
    intro ha
    have := ha ss[k] (List.getElem_mem _)
    simp at this
    omega
  unfold light3B
  rw [Bool.not_eq_true] at this
  rw [this]; simp
theorem light3B_yes {ss : List ByteArray} (h : ∀ j (hj : j < ss.length), ss[j].size ≤ 300) : light3B ss = decide (ss.length ≤ 60) := by
  unfold light3B
  have : ss.all (fun s => decide (s.size ≤ 300)) = true := by
    rw [List.all_eq_true]
    intro s hs
    obtain ⟨j, hj, rfl⟩ := List.getElem_of_mem hs
    simpa using h j hj
  rw [this]; simp
theorem light3B_len {ss : List ByteArray} (h : light3B ss = true) : ss.length ≤ 60 := by
  unfold light3B at h
  simp at h
  exact h.2

set_option maxRecDepth 100000 in
theorem light3_any (A : Option Addr) (ss : List ByteArray) (cap : Nat) (w : World) (hs : Strs w w.heap.size A ss) (hn : ss.length ≤ 9223372036854775807) :
    Calls Tryz.prog 14 #[.slice A ss.length cap] w fun e w' => e = .returned (.bool (light3B ss)) ∧ w = w' := by
  go_enter Tryz.func14, Tryz.ntmps14
  go_wp2
  go_loop [3] (fun i => ∃ k : Nat, k ≤ ss.length ∧ i = .int .i64 (k : Int) ∧ Hid (∀ j (hj : j < ss.length), j < k → ss[j].size ≤ 300)) (fun i => ss.length - (intOf i).toNat)
  case atStart => exact ⟨0, Nat.zero_le _, rfl, fun j _ h => absurd h (by omega)⟩
  case round =>
    obtain ⟨k, hk, rfl, hall⟩ := hrel
    by_cases hlt : k < ss.length
    · obtain ⟨g, off, rfl, hg, hc⟩ := hs.at_ hlt
      have hno := Lib.hid (light3B_no hlt)
      have hyes : Hid (((ss[k].size : Int) ≤ 300) → ∀ j (hj : j < ss.length), j < k + 1 → ss[j].size ≤ 300) := by
        intro h j hj hjk
        by_cases he : j = k
        · subst he; omega
        · exact hall.out j hj (by omega)
      generalize ss[k] = s at *
      clear hs hall
      by_cases h3 : 300 < s.size
      · have hno2 := Lib.hid (hno.out (by omega))
        clear hno hyes
        go_wp2
        go_ret
        rw [hno2.out]
        exact ⟨rfl, rfl⟩
      · have hyes2 := Lib.hid (hyes.out (by omega))
        clear hno hyes
        go_wp2
        go_round
        case rel => exact ⟨k + 1, by omega, by go_num, hyes2⟩
        case measure => simp [intOf]; omega
    · have hk2 : k = ss.length := by omega
      subst hk2
      have hy := Lib.hid (light3B_yes (fun j hj => hall.out j hj hj))
      clear hall
      go_wp2
      go_ret
      rw [hy.out]
      exact ⟨by simp; omega, rfl⟩
end Go.Proofs.YtioknegeebgdbaaGreatDoor
namespace Go.Proofs.YtioknegeebgdbaaGreatDoor
open Go.RowKit
set_option linter.unusedVariables false

/-- An operation that is not far too large. -/
structure Om.Lt (x : Om) : Prop where
  name : x.name.size ≤ 400
  dname : x.dname.size ≤ 400
  self : x.self.p.size ≤ 400
  parent : x.parent.p.size ≤ 400
  dst : x.dst.p.size ≤ 400
  left : x.left.p.size ≤ 400
  right : x.right.p.size ≤ 400
  few : x.dels.length ≤ 40
  lines : light3B (toBs x.lines) = true
  dels : ∀ i ∈ x.dels, i.p.size ≤ 100
theorem light3k_any (A : Option Addr) (l : List (List UInt8)) (c : Nat) (w : World) (hs : Strs w w.heap.size A (toBs l)) (hn : l.length ≤ 9223372036854775807) (r : Bool) (hr : light3B (toBs l) = r) :
    Calls Tryz.prog 14 #[.slice A l.length c] w fun e w' => e = .returned (.bool r) ∧ w = w' := by
  have h := light3_any A (toBs l) c w hs (by rw [toBs_len]; exact hn)
  rw [toBs_len, hr] at h
  exact h
theorem elem_ops : Tryz.prog.elem 29 = 27 := by kernel_rfl
theorem ops_und : Tryz.prog.underlying 29 = some (.slice (Tryz.prog.elem 29)) := by
  rw [elem_ops]
  exact Tryz.underlying29
theorem size_op (W : World) : (sizeOf 27).run Tryz.prog W = .ok 16 W := by
  cases h : Tryz.prog.info? 27 with
  | some i =>
    have h2 := sized_op
    rw [h] at h2
    simp only [Option.map_some, Option.some.injEq] at h2
    simp [sizeOf, typeInfo, h, h2, Sem.run_bind]
  | none => exact absurd h (by have h2 : (Tryz.prog.info? 27).isSome = true := by kernel_rfl
                               intro h3; rw [h3] at h2; cases h2)
theorem op_indexAt {A : Option Addr} {b off n c k : Nat} (e : A = some ⟨b, off, none⟩) (hk : k < n) (W : World) : (Instr.indexAt 29 (.slice A n c) (.int .i64 (k : Int))).run Tryz.prog W = .ok (.pointer (some ⟨b, off + k * 16, none⟩)) W := by
  subst e
  rw [run_indexAt_slice (h := ops_und), if_pos (by omega), elem_ops, size_op, Result.andThen_ok]
  have e2 : (⟨b, off, none⟩ : Addr).add ((k : Int).toNat * 16) = ⟨b, off + k * 16, none⟩ := by unfold Addr.add; split <;> simp_all
  rw [e2]
/-- What Light tells. -/
def LightLeft (l : List Om) (w : World) (e : Ending) (w' : World) : Prop := ∃ r : Bool, e = .returned (.bool r) ∧ Hid (r = true → ∀ x ∈ l, x.Lt) ∧ Below w.heap.size w w'
set_option maxHeartbeats 8000000 in
set_option maxRecDepth 100000 in
theorem light12_any (A : Option Addr) (l : List Om) (cap : Nat) (w : World) (hs : Ops w w.heap.size A l) (hi : ∀ x ∈ l, x.In) (hn : l.length ≤ 1000) :
    Calls Tryz.prog 5 #[.slice A l.length cap] w (LightLeft l w) := by
  have HS := Lib.hid hs
  have HI := Lib.hid hi
  clear hs hi
  go_enter Tryz.func5, Tryz.ntmps5
  go_wp2
  go_loopw [3] (fun i wr => ∃ k : Nat, k ≤ l.length ∧ i = .int .i64 (k : Int) ∧ Hid (∀ j (hj : j < l.length), j < k → l[j].Lt) ∧ Hid (Below w.heap.size w wr)) (fun i _ => l.length - (intOf i).toNat)
  case atStart => exact ⟨0, Nat.zero_le _, rfl, fun j _ h => absurd h (by omega), Below.refl _ _⟩
  case round =>
    obtain ⟨k, hk, rfl, hall, hbr⟩ := hrel
    by_cases hlt : k < l.length
    · have hS := HS.out.on hbr.out
      obtain ⟨b, off, eA, _, hc⟩ := hS.1.get hlt
      have hox := hS.2 _ (List.getElem_mem hlt)
      have hin := HI.out _ (List.getElem_mem hlt)
      have IA := op_indexAt (c := cap) eA hlt
      have HNX : Hid (l[k].Lt → ∀ j (hj : j < l.length), j < k + 1 → l[j].Lt) := fun h j hj hjk => by
        by_cases e : j = k
        · subst e; exact h
        · exact hall.out j hj (by omega)
      have u0 : (0 : Int) ≤ (k : Int) := by omega
      have u1 : (k : Int) < (l.length : Int) := by omega
      clear hS eA hall
      generalize l[k] = x at *
      have RX : wr.rangeAt b (off + k * 16) [.int .i64 x.kind, .string x.self.p, .int .i64 x.self.n, .string x.parent.p, .int .i64 x.parent.n, .string x.dst.p, .int .i64 x.dst.n, .string x.name, .string x.dname, .string x.left.p, .int .i64 x.left.n, .string x.right.p, .int .i64 x.right.n, .slice x.a1 x.dels.length x.c1, .int .i64 x.first, .slice x.a2 x.lines.length x.c2] := fun j v hv => hc j v hv
      obtain ⟨hbx, hX⟩ := op_box wr x
      have HX := Lib.hid hX
      have OX := Lib.hid (hox.on hbx)
      have HB := Lib.hid (hbr.out.trans (hbx.mono hbr.out.size))
      have HIN := Lib.hid hin
      clear hc hox hbx hX hbr hin
      -- @P1
      go_upto_region 5 with (refine wpList_load_mid rfl 27 _ rfl b (off + k * 16) rfl [.int .i64 x.kind, .string x.self.p, .int .i64 x.self.n, .string x.parent.p, .int .i64 x.parent.n, .string x.dst.p, .int .i64 x.dst.n, .string x.name, .string x.dname, .string x.left.p, .int .i64 x.left.n, .string x.right.p, .int .i64 x.right.n, .slice x.a1 x.dels.length x.c1, .int .i64 x.first, .slice x.a2 x.lines.length x.c2] _ RX Tryz.underlying27 rfl (by kernel_rfl) ?_)
      generalize (wr.alloc (.cells #[.int .i64 x.kind, .string x.self.p, .int .i64 x.self.n, .string x.parent.p, .int .i64 x.parent.n, .string x.dst.p, .int .i64 x.dst.n, .string x.name, .string x.dname, .string x.left.p, .int .i64 x.left.n, .string x.right.p, .int .i64 x.right.n, .slice x.a1 x.dels.length x.c1, .int .i64 x.first, .slice x.a2 x.lines.length x.c2] 27)) = wx at *
      -- @P2
      have hin := HIN.out
      have oc := op_cells HX.out
      have c_dels := oc.dels
      have c_lines := oc.lines
      have c_name := oc.name
      have c_dname := oc.dname
      have c_selfp := oc.selfp
      have c_parentp := oc.parentp
      have c_dstp := oc.dstp
      have c_leftp := oc.leftp
      have c_rightp := oc.rightp
      clear oc RX IA
      by_cases h1 : 40 < x.dels.length
      · have q1 : (x.dels.length : Int) > 40 := by omega
        have HV : Hid (false = true → ∀ x ∈ l, x.Lt) := fun h => by cases h
        clear HNX hin
        go_wp2
        go_ret
        exact ⟨false, rfl, HV, HB.out⟩
      have q1 : ¬ (x.dels.length : Int) > 40 := by omega
      cases h2 : light3B (toBs x.lines)
      · have CL := Lib.hid (light3k_any x.a2 x.lines x.c2 wx OX.out.lines hin.rows false h2)
        have HV : Hid (false = true → ∀ x ∈ l, x.Lt) := fun h => by cases h
        clear HNX hin
        go_wp2_with fail
        refine CL.out.mono ?_
        rintro e w1 ⟨rfl, hw⟩
        subst hw
        go_wp2
        go_ret
        exact ⟨false, rfl, HV, HB.out⟩
      have CL := Lib.hid (light3k_any x.a2 x.lines x.c2 wx OX.out.lines hin.rows true h2)
      have hi1 := hin.name
      have hi2 := hin.dname
      have hi3 := hin.self
      have hi4 := hin.parent
      have hi5 := hin.dst
      have hi6 := hin.left
      have hi7 := hin.right
      have g0 : IntKind.i64.wrap (((x.name.size : Nat) : Int) + ((x.dname.size : Nat) : Int)) = ((x.name.size : Nat) : Int) + ((x.dname.size : Nat) : Int) := IntWalk.i64_in _ (by omega)
      have g1 : IntKind.i64.wrap ((((x.name.size : Nat) : Int) + ((x.dname.size : Nat) : Int)) + ((x.self.p.size : Nat) : Int)) = (((x.name.size : Nat) : Int) + ((x.dname.size : Nat) : Int)) + ((x.self.p.size : Nat) : Int) := IntWalk.i64_in _ (by omega)
      have g2 : IntKind.i64.wrap (((((x.name.size : Nat) : Int) + ((x.dname.size : Nat) : Int)) + ((x.self.p.size : Nat) : Int)) + ((x.parent.p.size : Nat) : Int)) = ((((x.name.size : Nat) : Int) + ((x.dname.size : Nat) : Int)) + ((x.self.p.size : Nat) : Int)) + ((x.parent.p.size : Nat) : Int) := IntWalk.i64_in _ (by omega)
      have g3 : IntKind.i64.wrap ((((((x.name.size : Nat) : Int) + ((x.dname.size : Nat) : Int)) + ((x.self.p.size : Nat) : Int)) + ((x.parent.p.size : Nat) : Int)) + ((x.dst.p.size : Nat) : Int)) = (((((x.name.size : Nat) : Int) + ((x.dname.size : Nat) : Int)) + ((x.self.p.size : Nat) : Int)) + ((x.parent.p.size : Nat) : Int)) + ((x.dst.p.size : Nat) : Int) := IntWalk.i64_in _ (by omega)
      have g4 : IntKind.i64.wrap (((((((x.name.size : Nat) : Int) + ((x.dname.size : Nat) : Int)) + ((x.self.p.size : Nat) : Int)) + ((x.parent.p.size : Nat) : Int)) + ((x.dst.p.size : Nat) : Int)) + ((x.left.p.size : Nat) : Int)) = ((((((x.name.size : Nat) : Int) + ((x.dname.size : Nat) : Int)) + ((x.self.p.size : Nat) : Int)) + ((x.parent.p.size : Nat) : Int)) + ((x.dst.p.size : Nat) : Int)) + ((x.left.p.size : Nat) : Int) := IntWalk.i64_in _ (by omega)
      have g5 : IntKind.i64.wrap ((((((((x.name.size : Nat) : Int) + ((x.dname.size : Nat) : Int)) + ((x.self.p.size : Nat) : Int)) + ((x.parent.p.size : Nat) : Int)) + ((x.dst.p.size : Nat) : Int)) + ((x.left.p.size : Nat) : Int)) + ((x.right.p.size : Nat) : Int)) = (((((((x.name.size : Nat) : Int) + ((x.dname.size : Nat) : Int)) + ((x.self.p.size : Nat) : Int)) + ((x.parent.p.size : Nat) : Int)) + ((x.dst.p.size : Nat) : Int)) + ((x.left.p.size : Nat) : Int)) + ((x.right.p.size : Nat) : Int) := IntWalk.i64_in _ (by omega)
      clear hi1 hi2 hi3 hi4 hi5 hi6 hi7
      by_cases h3 : ((((((((x.name.size : Nat) : Int) + ((x.dname.size : Nat) : Int)) + ((x.self.p.size : Nat) : Int)) + ((x.parent.p.size : Nat) : Int)) + ((x.dst.p.size : Nat) : Int)) + ((x.left.p.size : Nat) : Int)) + ((x.right.p.size : Nat) : Int)) > 400
      · have HV : Hid (false = true → ∀ x ∈ l, x.Lt) := fun h => by cases h
        clear HNX hin
        go_wp2_with fail
        refine CL.out.mono ?_
        rintro e w1 ⟨rfl, hw⟩
        subst hw
        go_wp2
        go_ret
        exact ⟨false, rfl, HV, HB.out⟩
      have HNX2 : Hid ((∀ i ∈ x.dels, i.p.size ≤ 100) → ∀ j (hj : j < l.length), j < k + 1 → l[j].Lt) := fun h => HNX.out ⟨by omega, by omega, by omega, by omega, by omega, by omega, by omega, by omega, h2, h⟩
      clear HNX hin
      -- @P3
      go_wp2_with fail
      refine CL.out.mono ?_
      rintro e w1 ⟨rfl, hw⟩
      subst hw
      clear CL
      have h4 : x.dels.length ≤ 40 := by omega
      go_upto_region 7 with (fail)
      clear g0 g1 g2 g3 g4 g5 h3 c_name c_dname c_selfp c_parentp c_dstp c_leftp c_rightp c_lines q1 h2 h1 c_dels
      -- @P4
      have HG0 : Hid (Below wx.heap.size wx wx) := Below.refl _ _
      go_wp2
      go_loopw [5] (fun i w2 => ∃ q : Nat, q ≤ x.dels.length ∧ i = .int .i64 (q : Int) ∧ Hid (∀ j (hj : j < x.dels.length), j < q → x.dels[j].p.size ≤ 100) ∧ Hid (Below wx.heap.size wx w2)) (fun i _ => x.dels.length - (intOf i).toNat)
      case atStart => exact ⟨0, Nat.zero_le _, rfl, fun j _ h => absurd h (by omega), HG0.out⟩
      case round =>
        clear HG0
        obtain ⟨q, hq, rfl, hdl, hb2⟩ := hrel
        have c_dels := (op_cells (HX.out.on hb2.out)).dels
        have HB2 := Lib.hid (HB.out.trans (hb2.out.mono HB.out.size))
        by_cases hql : q < x.dels.length
        · obtain ⟨bd, od, eD, _, d0, d1⟩ := ids_get (OX.out.dels.on hb2.out) hql
          have ID := id_indexAt (c := x.c1) eD hql
          have v0 : (0 : Int) ≤ (q : Int) := by omega
          have v1 : (q : Int) < (x.dels.length : Int) := by omega
          have hcase : (100 < x.dels[q].p.size) ∨ (x.dels[q].p.size ≤ 100 ∧ Hid (∀ j (hj : j < x.dels.length), j < q + 1 → x.dels[j].p.size ≤ 100)) := by
            by_cases e : 100 < x.dels[q].p.size
            · exact .inl e
            · refine .inr ⟨by omega, fun j hj hjq => ?_⟩
              by_cases ej : j = q
              · subst ej; omega
              · exact hdl.out j hj (by omega)
          have HBW : Hid (Below wx.heap.size wx wr) := hb2
          clear eD hdl hb2 d1
          generalize x.dels[q] = y at *
          -- @P5
          rcases hcase with hbig | ⟨hsm, HD2⟩
          · have qb : (y.p.size : Int) > 100 := by omega
            have HV : Hid (false = true → ∀ x ∈ l, x.Lt) := fun h => by cases h
            clear HNX2
            go_wp2
            go_ret
            exact ⟨false, rfl, HV, HB2.out⟩
          · have qb : ¬ (y.p.size : Int) > 100 := by omega
            go_wp2
            go_roundw
            case rel => exact ⟨q + 1, by omega, by go_num, HD2, HBW⟩
            case measure => simp [intOf]; omega
        · have hqe : q = x.dels.length := by omega
          have v1 : ¬ (q : Int) < (x.dels.length : Int) := by omega
          have HNEW : Hid (∀ j (hj : j < l.length), j < k + 1 → l[j].Lt) := HNX2.out fun i hi => by
            obtain ⟨j, hj, rfl⟩ := List.getElem_of_mem hi
            exact hdl.out j hj (by omega)
          clear HNX2 hdl hb2 hqe
          go_wp2
          go_roundw
          case rel => exact ⟨k + 1, by omega, by go_num, HNEW, HB2⟩
          case measure => simp [intOf]; omega
    · obtain rfl : k = l.length := by omega
      have hv : (l.length : Int) ≤ 40 ∨ ¬ (l.length : Int) ≤ 40 := by omega
      have HV : Hid (∀ r : Bool, r = true → ∀ x ∈ l, x.Lt) := fun r _ x hx => by
        obtain ⟨j, hj, rfl⟩ := List.getElem_of_mem hx
        exact hall.out j hj hj
      clear hall
      go_wp2
      go_ret
      exact ⟨_, rfl, HV.out _, hbr.out⟩
end Go.Proofs.YtioknegeebgdbaaGreatDoor
