/- Words for memory: strings that lie in a row; rows that a call made. The statements' Light of layer 3 (other layers call it too). The statements' Light of layer 12. What a slice of strings that comes in holds. What ids that come in hold. What an operation that comes in holds. What a patch that comes in holds. Light of layer 13. -/
import Derived.WalkKit
import Derived.Below
import Derived.Laws.AppendOwn
import Derived.Lib.OwnBridge
import Derived.Lib.Hide
import Derived.Sort.Walk0
import Derived.Shelf.GgClosure.Gives
import Derived.Test.YtoajckhfnadhjaaGreatDoorProg
import Derived.Handy
import Derived.Deep.CutRange
import Derived.ChangeOld
import Derived.SliceStrings
import Derived.WideShapes
import Derived.Deep.Slices
import Derived.Deep.Fields
import Derived.ChangeSame
import Derived.ChangeArms
import Derived.SizedLaws
import Derived.Test.YtoajckhfnadhjaaGreatDoorCk07
namespace Go.Proofs.YtoajckhfnadhjaaGreatDoor
open Go.RowKit
set_option linter.unusedVariables false

theorem toBs_lists (ss : List ByteArray) : toBs (lists ss) = ss := by
  unfold toBs lists
  rw [List.map_map]
  exact (List.map_congr_left fun s _ => toB_of s).trans (List.map_id _)
section
variable {w w' : World} {B B' : Nat} {A : Option Addr} {ss : List ByteArray}
end

end Go.Proofs.YtoajckhfnadhjaaGreatDoor
namespace Go.Proofs.YtoajckhfnadhjaaGreatDoor
open Go.RowKit
set_option linter.unusedVariables false

theorem light3B_no {ss : List ByteArray} {k : Nat} (hk : k < ss.length) (h : 300 < ss[k].size) : light3B ss = false := by
  have : ¬ ss.all (fun s => decide (s.size ≤ 300)) = true := by
    rw [List.all_eq_true]
    intro ha
    have := ha ss[k] (List.getElem_mem _)
    simp at this
    omega
  unfold light3B
  rw [Bool.not_eq_true] at this
  rw [this]; simp
theorem light3B_yes {ss : List ByteArray} (h : ∀ j (hj : j < ss.length), ss[j].size ≤ 300) : light3B ss = decide (ss.length ≤ 60) := by
  unfold light3B
  have : ss.all (fun s => decide (s.size ≤ 300)) = true := by
    rw [List.all_eq_true]
    intro s hs
    obtain ⟨j, hj, rfl⟩ := List.getElem_of_mem hs
    simpa using h j hj
  rw [this]; simp
set_option maxRecDepth 100000 in
theorem light3_any (A : Option Addr) (ss : List ByteArray) (cap : Nat) (w : World) (hs : Strs w w.heap.size A ss) (hn : ss.length ≤ 9223372036854775807) :
    Calls Tryz.prog 56 #[.slice A ss.length cap] w fun e w' => e = .returned (.bool (light3B ss)) ∧ w = w' := by
  go_enter Tryz.func56, Tryz.ntmps56
  go_wp2
  go_loop [3] (fun i => ∃ k : Nat, k ≤ ss.length ∧ i = .int .i64 (k : Int) ∧ Hid (∀ j (hj : j < ss.length), j < k → ss[j].size ≤ 300)) (fun i => ss.length - (intOf i).toNat)
  case atStart => exact ⟨0, Nat.zero_le _, rfl, fun j _ h => absurd h (by omega)⟩
  case round =>
    obtain ⟨k, hk, rfl, hall⟩ := hrel
    by_cases hlt : k < ss.length
    · obtain ⟨g, off, rfl, hg, hc⟩ := hs.at_ hlt
      have hno := Lib.hid (light3B_no hlt)
      have hyes : Hid (((ss[k].size : Int) ≤ 300) → ∀ j (hj : j < ss.length), j < k + 1 → ss[j].size ≤ 300) := by
        intro h j hj hjk
        by_cases he : j = k
        · subst he; omega
        · exact hall.out j hj (by omega)
      generalize ss[k] = s at *
      clear hs hall
      by_cases h3 : 300 < s.size
      · have hno2 := Lib.hid (hno.out (by omega))
        clear hno hyes
        go_wp2
        go_ret
        rw [hno2.out]
        exact ⟨rfl, rfl⟩
      · have hyes2 := Lib.hid (hyes.out (by omega))
        clear hno hyes
        go_wp2
        go_round
        case rel => exact ⟨k + 1, by omega, by go_num, hyes2⟩
        case measure => simp [intOf]; omega
    · have hk2 : k = ss.length := by omega
      subst hk2
      have hy := Lib.hid (light3B_yes (fun j hj => hall.out j hj hj))
      clear hall
      go_wp2
      go_ret
      rw [hy.out]
      exact ⟨by simp; omega, rfl⟩
end Go.Proofs.YtoajckhfnadhjaaGreatDoor
namespace Go.Proofs.YtoajckhfnadhjaaGreatDoor
open Go.RowKit
set_option linter.unusedVariables false

theorem light3k_any (A : Option Addr) (l : List (List UInt8)) (c : Nat) (w : World) (hs : Strs w w.heap.size A (toBs l)) (hn : l.length ≤ 9223372036854775807) (r : Bool) (hr : light3B (toBs l) = r) :
    Calls Tryz.prog 56 #[.slice A l.length c] w fun e w' => e = .returned (.bool r) ∧ w = w' := by
  have h := light3_any A (toBs l) c w hs (by rw [toBs_len]; exact hn)
  rw [toBs_len, hr] at h
  exact h
theorem elem_ops : Tryz.prog.elem 23 = 42 := by kernel_rfl
theorem ops_und : Tryz.prog.underlying 23 = some (.slice (Tryz.prog.elem 23)) := by
  rw [elem_ops]
  exact Tryz.underlying23
theorem size_op (W : World) : (sizeOf 42).run Tryz.prog W = .ok 16 W := by
  cases h : Tryz.prog.info? 42 with
  | some i =>
    have h2 := sized_op
    rw [h] at h2
    simp only [Option.map_some, Option.some.injEq] at h2
    simp [sizeOf, typeInfo, h, h2, Sem.run_bind]
  | none => exact absurd h (by have h2 : (Tryz.prog.info? 42).isSome = true := by kernel_rfl
                               intro h3; rw [h3] at h2; cases h2)
theorem op_indexAt {A : Option Addr} {b off n c k : Nat} (e : A = some ⟨b, off, none⟩) (hk : k < n) (W : World) : (Instr.indexAt 23 (.slice A n c) (.int .i64 (k : Int))).run Tryz.prog W = .ok (.pointer (some ⟨b, off + k * 16, none⟩)) W := by
  subst e
  rw [run_indexAt_slice (h := ops_und), if_pos (by omega), elem_ops, size_op, Result.andThen_ok]
  have e2 : (⟨b, off, none⟩ : Addr).add ((k : Int).toNat * 16) = ⟨b, off + k * 16, none⟩ := by unfold Addr.add; split <;> simp_all
  rw [e2]
/-- What Light tells. -/
def LightLeft (l : List Om) (w : World) (e : Ending) (w' : World) : Prop := ∃ r : Bool, e = .returned (.bool r) ∧ Hid (r = true → ∀ x ∈ l, x.Lt) ∧ Below w.heap.size w w'
set_option maxHeartbeats 8000000 in
set_option maxRecDepth 100000 in
theorem light12_any (A : Option Addr) (l : List Om) (cap : Nat) (w : World) (hs : Ops w w.heap.size A l) (hi : ∀ x ∈ l, x.In) (hn : l.length ≤ 1000) :
    Calls Tryz.prog 22 #[.slice A l.length cap] w (LightLeft l w) := by
  have HS := Lib.hid hs
  have HI := Lib.hid hi
  clear hs hi
  go_enter Tryz.func22, Tryz.ntmps22
  go_wp2
  go_loopw [3] (fun i wr => ∃ k : Nat, k ≤ l.length ∧ i = .int .i64 (k : Int) ∧ Hid (∀ j (hj : j < l.length), j < k → l[j].Lt) ∧ Hid (Below w.heap.size w wr)) (fun i _ => l.length - (intOf i).toNat)
  case atStart => exact ⟨0, Nat.zero_le _, rfl, fun j _ h => absurd h (by omega), Below.refl _ _⟩
  case round =>
    obtain ⟨k, hk, rfl, hall, hbr⟩ := hrel
    by_cases hlt : k < l.length
    · have hS := HS.out.on hbr.out
      obtain ⟨b, off, eA, _, hc⟩ := hS.1.get hlt
      have hox := hS.2 _ (List.getElem_mem hlt)
      have hin := HI.out _ (List.getElem_mem hlt)
      have IA := op_indexAt (c := cap) eA hlt
      have HNX : Hid (l[k].Lt → ∀ j (hj : j < l.length), j < k + 1 → l[j].Lt) := fun h j hj hjk => by
        by_cases e : j = k
        · subst e; exact h
        · exact hall.out j hj (by omega)
      have u0 : (0 : Int) ≤ (k : Int) := by omega
      have u1 : (k : Int) < (l.length : Int) := by omega
      clear hS eA hall
      generalize l[k] = x at *
      have RX : wr.rangeAt b (off + k * 16) [.int .i64 x.kind, .string x.self.p, .int .i64 x.self.n, .string x.parent.p, .int .i64 x.parent.n, .string x.dst.p, .int .i64 x.dst.n, .string x.name, .string x.dname, .string x.left.p, .int .i64 x.left.n, .string x.right.p, .int .i64 x.right.n, .slice x.a1 x.dels.length x.c1, .int .i64 x.first, .slice x.a2 x.lines.length x.c2] := fun j v hv => hc j v hv
      obtain ⟨hbx, hX⟩ := op_box wr x
      have HX := Lib.hid hX
      have OX := Lib.hid (hox.on hbx)
      have HB := Lib.hid (hbr.out.trans (hbx.mono hbr.out.size))
      have HIN := Lib.hid hin
      clear hc hox hbx hX hbr hin
      -- @P1
      go_upto_region 5 with (refine wpList_load_mid rfl 42 _ rfl b (off + k * 16) rfl [.int .i64 x.kind, .string x.self.p, .int .i64 x.self.n, .string x.parent.p, .int .i64 x.parent.n, .string x.dst.p, .int .i64 x.dst.n, .string x.name, .string x.dname, .string x.left.p, .int .i64 x.left.n, .string x.right.p, .int .i64 x.right.n, .slice x.a1 x.dels.length x.c1, .int .i64 x.first, .slice x.a2 x.lines.length x.c2] _ RX Tryz.underlying42 rfl (by kernel_rfl) ?_)
      generalize (wr.alloc (.cells #[.int .i64 x.kind, .string x.self.p, .int .i64 x.self.n, .string x.parent.p, .int .i64 x.parent.n, .string x.dst.p, .int .i64 x.dst.n, .string x.name, .string x.dname, .string x.left.p, .int .i64 x.left.n, .string x.right.p, .int .i64 x.right.n, .slice x.a1 x.dels.length x.c1, .int .i64 x.first, .slice x.a2 x.lines.length x.c2] 42)) = wx at *
      -- @P2
      have hin := HIN.out
      have oc := op_cells HX.out
      have c_dels := oc.dels
      have c_lines := oc.lines
      have c_name := oc.name
      have c_dname := oc.dname
      have c_selfp := oc.selfp
      have c_parentp := oc.parentp
      have c_dstp := oc.dstp
      have c_leftp := oc.leftp
      have c_rightp := oc.rightp
      clear oc RX IA
      by_cases h1 : 40 < x.dels.length
      · have q1 : (x.dels.length : Int) > 40 := by omega
        have HV : Hid (false = true → ∀ x ∈ l, x.Lt) := fun h => by cases h
        clear HNX hin
        go_wp2
        go_ret
        exact ⟨false, rfl, HV, HB.out⟩
      have q1 : ¬ (x.dels.length : Int) > 40 := by omega
      cases h2 : light3B (toBs x.lines)
      · have CL := Lib.hid (light3k_any x.a2 x.lines x.c2 wx OX.out.lines hin.rows false h2)
        have HV : Hid (false = true → ∀ x ∈ l, x.Lt) := fun h => by cases h
        clear HNX hin
        go_wp2_with fail
        refine CL.out.mono ?_
        rintro e w1 ⟨rfl, hw⟩
        subst hw
        go_wp2
        go_ret
        exact ⟨false, rfl, HV, HB.out⟩
      have CL := Lib.hid (light3k_any x.a2 x.lines x.c2 wx OX.out.lines hin.rows true h2)
      have hi1 := hin.name
      have hi2 := hin.dname
      have hi3 := hin.self
      have hi4 := hin.parent
      have hi5 := hin.dst
      have hi6 := hin.left
      have hi7 := hin.right
      have g0 : IntKind.i64.wrap (((x.name.size : Nat) : Int) + ((x.dname.size : Nat) : Int)) = ((x.name.size : Nat) : Int) + ((x.dname.size : Nat) : Int) := IntWalk.i64_in _ (by omega)
      have g1 : IntKind.i64.wrap ((((x.name.size : Nat) : Int) + ((x.dname.size : Nat) : Int)) + ((x.self.p.size : Nat) : Int)) = (((x.name.size : Nat) : Int) + ((x.dname.size : Nat) : Int)) + ((x.self.p.size : Nat) : Int) := IntWalk.i64_in _ (by omega)
      have g2 : IntKind.i64.wrap (((((x.name.size : Nat) : Int) + ((x.dname.size : Nat) : Int)) + ((x.self.p.size : Nat) : Int)) + ((x.parent.p.size : Nat) : Int)) = ((((x.name.size : Nat) : Int) + ((x.dname.size : Nat) : Int)) + ((x.self.p.size : Nat) : Int)) + ((x.parent.p.size : Nat) : Int) := IntWalk.i64_in _ (by omega)
      have g3 : IntKind.i64.wrap ((((((x.name.size : Nat) : Int) + ((x.dname.size : Nat) : Int)) + ((x.self.p.size : Nat) : Int)) + ((x.parent.p.size : Nat) : Int)) + ((x.dst.p.size : Nat) : Int)) = (((((x.name.size : Nat) : Int) + ((x.dname.size : Nat) : Int)) + ((x.self.p.size : Nat) : Int)) + ((x.parent.p.size : Nat) : Int)) + ((x.dst.p.size : Nat) : Int) := IntWalk.i64_in _ (by omega)
      have g4 : IntKind.i64.wrap (((((((x.name.size : Nat) : Int) + ((x.dname.size : Nat) : Int)) + ((x.self.p.size : Nat) : Int)) + ((x.parent.p.size : Nat) : Int)) + ((x.dst.p.size : Nat) : Int)) + ((x.left.p.size : Nat) : Int)) = ((((((x.name.size : Nat) : Int) + ((x.dname.size : Nat) : Int)) + ((x.self.p.size : Nat) : Int)) + ((x.parent.p.size : Nat) : Int)) + ((x.dst.p.size : Nat) : Int)) + ((x.left.p.size : Nat) : Int) := IntWalk.i64_in _ (by omega)
      have g5 : IntKind.i64.wrap ((((((((x.name.size : Nat) : Int) + ((x.dname.size : Nat) : Int)) + ((x.self.p.size : Nat) : Int)) + ((x.parent.p.size : Nat) : Int)) + ((x.dst.p.size : Nat) : Int)) + ((x.left.p.size : Nat) : Int)) + ((x.right.p.size : Nat) : Int)) = (((((((x.name.size : Nat) : Int) + ((x.dname.size : Nat) : Int)) + ((x.self.p.size : Nat) : Int)) + ((x.parent.p.size : Nat) : Int)) + ((x.dst.p.size : Nat) : Int)) + ((x.left.p.size : Nat) : Int)) + ((x.right.p.size : Nat) : Int) := IntWalk.i64_in _ (by omega)
      clear hi1 hi2 hi3 hi4 hi5 hi6 hi7
      by_cases h3 : ((((((((x.name.size : Nat) : Int) + ((x.dname.size : Nat) : Int)) + ((x.self.p.size : Nat) : Int)) + ((x.parent.p.size : Nat) : Int)) + ((x.dst.p.size : Nat) : Int)) + ((x.left.p.size : Nat) : Int)) + ((x.right.p.size : Nat) : Int)) > 400
      · have HV : Hid (false = true → ∀ x ∈ l, x.Lt) := fun h => by cases h
        clear HNX hin
        go_wp2_with fail
        refine CL.out.mono ?_
        rintro e w1 ⟨rfl, hw⟩
        subst hw
        go_wp2
        go_ret
        exact ⟨false, rfl, HV, HB.out⟩
      have HNX2 : Hid ((∀ i ∈ x.dels, i.p.size ≤ 100) → ∀ j (hj : j < l.length), j < k + 1 → l[j].Lt) := fun h => HNX.out ⟨by omega, by omega, by omega, by omega, by omega, by omega, by omega, by omega, h2, h⟩
      clear HNX hin
      -- @P3
      go_wp2_with fail
      refine CL.out.mono ?_
      rintro e w1 ⟨rfl, hw⟩
      subst hw
      clear CL
      have h4 : x.dels.length ≤ 40 := by omega
      go_upto_region 7 with (fail)
      clear g0 g1 g2 g3 g4 g5 h3 c_name c_dname c_selfp c_parentp c_dstp c_leftp c_rightp c_lines q1 h2 h1 c_dels
      -- @P4
      have HG0 : Hid (Below wx.heap.size wx wx) := Below.refl _ _
      go_wp2
      go_loopw [5] (fun i w2 => ∃ q : Nat, q ≤ x.dels.length ∧ i = .int .i64 (q : Int) ∧ Hid (∀ j (hj : j < x.dels.length), j < q → x.dels[j].p.size ≤ 100) ∧ Hid (Below wx.heap.size wx w2)) (fun i _ => x.dels.length - (intOf i).toNat)
      case atStart => exact ⟨0, Nat.zero_le _, rfl, fun j _ h => absurd h (by omega), HG0.out⟩
      case round =>
        clear HG0
        obtain ⟨q, hq, rfl, hdl, hb2⟩ := hrel
        have c_dels := (op_cells (HX.out.on hb2.out)).dels
        have HB2 := Lib.hid (HB.out.trans (hb2.out.mono HB.out.size))
        by_cases hql : q < x.dels.length
        · obtain ⟨bd, od, eD, _, d0, d1⟩ := ids_get (OX.out.dels.on hb2.out) hql
          have ID := id_indexAt (c := x.c1) eD hql
          have v0 : (0 : Int) ≤ (q : Int) := by omega
          have v1 : (q : Int) < (x.dels.length : Int) := by omega
          have hcase : (100 < x.dels[q].p.size) ∨ (x.dels[q].p.size ≤ 100 ∧ Hid (∀ j (hj : j < x.dels.length), j < q + 1 → x.dels[j].p.size ≤ 100)) := by
            by_cases e : 100 < x.dels[q].p.size
            · exact .inl e
            · refine .inr ⟨by omega, fun j hj hjq => ?_⟩
              by_cases ej : j = q
              · subst ej; omega
              · exact hdl.out j hj (by omega)
          have HBW : Hid (Below wx.heap.size wx wr) := hb2
          clear eD hdl hb2 d1
          generalize x.dels[q] = y at *
          -- @P5
          rcases hcase with hbig | ⟨hsm, HD2⟩
          · have qb : (y.p.size : Int) > 100 := by omega
            have HV : Hid (false = true → ∀ x ∈ l, x.Lt) := fun h => by cases h
            clear HNX2
            go_wp2
            go_ret
            exact ⟨false, rfl, HV, HB2.out⟩
          · have qb : ¬ (y.p.size : Int) > 100 := by omega
            go_wp2
            go_roundw
            case rel => exact ⟨q + 1, by omega, by go_num, HD2, HBW⟩
            case measure => simp [intOf]; omega
        · have hqe : q = x.dels.length := by omega
          have v1 : ¬ (q : Int) < (x.dels.length : Int) := by omega
          have HNEW : Hid (∀ j (hj : j < l.length), j < k + 1 → l[j].Lt) := HNX2.out fun i hi => by
            obtain ⟨j, hj, rfl⟩ := List.getElem_of_mem hi
            exact hdl.out j hj (by omega)
          clear HNX2 hdl hb2 hqe
          go_wp2
          go_roundw
          case rel => exact ⟨k + 1, by omega, by go_num, HNEW, HB2⟩
          case measure => simp [intOf]; omega
    · obtain rfl : k = l.length := by omega
      have hv : (l.length : Int) ≤ 40 ∨ ¬ (l.length : Int) ≤ 40 := by omega
      have HV : Hid (∀ r : Bool, r = true → ∀ x ∈ l, x.Lt) := fun r _ x hx => by
        obtain ⟨j, hj, rfl⟩ := List.getElem_of_mem hx
        exact hall.out j hj hj
      clear hall
      go_wp2
      go_ret
      exact ⟨_, rfl, HV.out _, hbr.out⟩
end Go.Proofs.YtoajckhfnadhjaaGreatDoor
namespace Go.Proofs.YtoajckhfnadhjaaGreatDoor
open Go.ChangeShapes Go.WideShapes Go.RowKit
set_option linter.unusedVariables false

theorem open_strs {H : Type} {enc : TypeId × Value → H} {W : World} {fuel : Nat} {v : Value} {y : DataW H × List MemPlace} (hf : DataW.trod enc Tryz.prog W 0 (fun _ => true) true fuel 22 [v] = some y) :
    ∃ (A : Option Addr) (ss : List ByteArray) (cap : Nat), v = .slice A ss.length cap ∧ Strs W W.heap.size A ss ∧ ss.length ≤ 9223372036854775807 ∧ Room A ss.length cap := by
  have hlt := DataW.trod_lt fuel _ _ _ hf
  rcases open_strings Tryz.underlying22 Tryz.underlying9 (by kernel_rfl) hf with ⟨hcs, hx⟩ | ⟨x, l, c, zs, hcs, _, hl, hm, hz, hx, hcell, hwz⟩
  · simp at hcs
    subst hcs
    exact ⟨none, [], 0, rfl, Strs.none_, by simp, fun _ => rfl, Nat.le_refl _⟩
  · simp at hcs
    subst hcs
    simp only [if_true] at hz
    subst hx
    unfold maxLen at hm
    have hl2 : (zs.take l).length = l := by rw [List.length_take]; omega
    refine ⟨some x, zs.take l, c, by rw [hl2], fun hpos => ?_, by omega, (fun e => by cases e), by omega⟩
    rw [hl2] at hpos
    obtain ⟨b, off, spot⟩ := x
    have hspot : spot = none := by simpa [Addr.add] using World.cell?_spot (hcell 0 (by omega))
    subst hspot
    refine ⟨b, off, rfl, ?_, fun j hj => ?_⟩
    · have := hlt (.cell b off) (MemPlace.mem_row.2 ⟨0, by omega, by simp⟩)
      exact this
    · have hj2 : j < l := by omega
      have hc := hcell j (by omega)
      have e : (⟨b, off, none⟩ : Addr).add j = ⟨b, off + j, none⟩ := by unfold Addr.add; split <;> simp_all
      rw [e] at hc
      rw [hc, List.getElem_take]
      simp [List.getD_eq_getElem?_getD, List.getElem?_eq_getElem (show j < zs.length by omega)]
end Go.Proofs.YtoajckhfnadhjaaGreatDoor
namespace Go.Proofs.YtoajckhfnadhjaaGreatDoor
open Go.ChangeShapes Go.WideShapes Go.RowKit
set_option linter.unusedVariables false

theorem listof_id {α : Type} {P : Nat → α → Prop} : ∀ (n : Nat), (∀ i, i < n → ∃ x, P i x) → ∃ l : List α, l.length = n ∧ ∀ j (hj : j < l.length), P j l[j]
  | 0, _ => ⟨[], rfl, fun j hj => absurd hj (by simp)⟩
  | n + 1, h => by
    obtain ⟨l, hl, hp⟩ := listof_id n fun i hi => h i (by omega)
    obtain ⟨x, hx⟩ := h n (by omega)
    refine ⟨l ++ [x], by simp [hl], fun j hj => ?_⟩
    by_cases hjl : j < l.length
    · rw [List.getElem_append_left hjl]
      exact hp j hjl
    · have e : j = l.length := by simp at hj; omega
      subst e
      rw [List.getElem_append_right (Nat.le_refl _)]
      simp only [Nat.sub_self, List.getElem_cons_zero]
      rw [hl]
      exact hx
set_option maxRecDepth 10000 in
theorem open_id {H : Type} {enc : TypeId × Value → H} {W : World} {fuel : Nat} {cs : List Value} {y : DataW H × List MemPlace} (hf : DataW.trod enc Tryz.prog W 0 (fun _ => true) true fuel 40 cs = some y) (hl : cs.length = 2) :
    ∃ h : Im, cs = [.string h.p, .int .i64 h.n] ∧ h.Ok := by
  obtain ⟨xs, n, _, _, _, hlen, hg⟩ := DataW.trod_struct Tryz.underlying40 hf
  match cs, hl with
  | [c0, c1], _ =>
    match xs, hlen with
    | [y0, y1], _ =>
      have g0 : DataW.trod enc Tryz.prog W 0 (fun _ => true) true n 9 [c0] = some y0 := hg 0 _ rfl
      have g1 : DataW.trod enc Tryz.prog W 0 (fun _ => true) true n 3 [c1] = some y1 := hg 1 _ rfl
      obtain ⟨s, hc0, _, w0⟩ := DataW.trod_string Tryz.underlying9 g0
      obtain rfl : c0 = .string s := by simpa using hc0
      have hw0 : s.size ≤ 9223372036854775807 := by unfold maxLen at w0; omega
      obtain ⟨k, hc, _, wk⟩ := DataW.trod_int Tryz.underlying3 g1
      obtain rfl : c1 = .int .i64 k := by simpa using hc
      have hw : -9223372036854775808 ≤ k ∧ k ≤ 9223372036854775807 := by simpa [Lit.wf, IntKind.min, IntKind.max, IntKind.signed, IntKind.bits] using wk
      exact ⟨⟨s, k⟩, rfl, hw0, hw⟩
theorem open_ids {H : Type} {enc : TypeId × Value → H} {W : World} {fuel : Nat} {v : Value} {y : DataW H × List MemPlace} (hf : DataW.trod enc Tryz.prog W 0 (fun _ => true) true fuel 38 [v] = some y) :
    ∃ (A : Option Addr) (hs : List Im) (cap : Nat), v = .slice A hs.length cap ∧ Ids W W.heap.size A hs ∧ hs.length ≤ 9223372036854775807 ∧ Room A hs.length cap := by
  have hlt := DataW.trod_lt fuel _ _ _ hf
  have hC : Tryz.prog.cellsOf 40 = 2 := by kernel_rfl
  rcases Go.Deep.open_slice Tryz.underlying38 hf with ⟨hcs, _⟩ | ⟨a, len, cap, m, n, D, Pl, hcs, _, hl, hm, hmm, hx, hi⟩
  · obtain rfl : v = .slice none 0 0 := by simpa using hcs
    exact ⟨none, [], 0, rfl, Rk.Row.nil, by simp, fun _ => rfl, Nat.le_refl _⟩
  · obtain rfl : v = .slice (some a) len cap := by simpa using hcs
    simp only [if_true] at hmm
    unfold maxLen at hm
    obtain ⟨b, off, spot⟩ := a
    have each : ∀ i, i < len → ∃ h : Im, (∀ j (u : Value), (idR.enc h)[j]? = some u → W.cell? ((⟨b, off, spot⟩ : Addr).add (i * 2 + j)) = some u) ∧ h.Ok := by
      intro i hil
      obtain ⟨cs', hc, ht'⟩ := hi i (by omega)
      rw [hC] at hc
      obtain ⟨_, hcl, hat⟩ := World.cells?_some hc
      obtain ⟨h, rfl, hok⟩ := open_id ht' hcl
      refine ⟨h, fun j u hj => ?_, hok⟩
      rw [← Go.Deep.add_add]
      have hj2 : j < 2 := (List.getElem?_eq_some_iff.1 hj).1
      rw [hat j hj2]
      exact hj
    obtain ⟨hs, hlen, hp⟩ := listof_id len each
    subst hlen
    refine ⟨some ⟨b, off, spot⟩, hs, cap, rfl, fun hpos => ?_, by omega, (fun e => by cases e), hl⟩
    have h0 := (hp 0 hpos).1 0 _ rfl
    have hspot : spot = none := by simpa [Addr.add] using World.cell?_spot h0
    subst hspot
    have e : ∀ i, (⟨b, off, none⟩ : Addr).add i = ⟨b, off + i, none⟩ := fun i => by unfold Addr.add; split <;> simp_all
    refine ⟨b, off, rfl, ?_, fun i u hu => ?_⟩
    · have h1 := (hp 0 hpos).1 0 _ rfl
      rw [e] at h1
      exact rec_cell_lt h1
    · have hi2 := (List.getElem?_eq_some_iff.1 hu).1
      rw [idR.cells_len] at hi2
      obtain ⟨j, r, hj, hr, rfl⟩ := idR.at_place hs hi2
      rw [idR.cells_get hs j hj r hr] at hu
      have h1 := (hp j hj).1 r u hu
      rw [e] at h1
      exact h1
end Go.Proofs.YtoajckhfnadhjaaGreatDoor
namespace Go.Proofs.YtoajckhfnadhjaaGreatDoor
open Go.ChangeShapes Go.WideShapes Go.RowKit
set_option linter.unusedVariables false

theorem weigh_field {H : Type} {P : Program} {t : TypeId} {fs : Array Field} {xs : List (DataW H × List MemPlace)} (ht : P.underlying t = some (.struct fs)) (j : Nat) {f : Field} {y : DataW H × List MemPlace} (hf : fs[j]? = some f) (hy : xs[j]? = some y)
    (h : ((DataW.agg (xs.map (·.1))).weights P t).all (· ≤ reachBytes) = true) : (y.1.weights P f.type).all (· ≤ reachBytes) = true := by
  refine List.all_eq_true.2 fun n hn => List.all_eq_true.1 h n ?_
  simp only [DataW.weights, ht]
  exact DataW.weights_mem_each (j := j) (by simp [hf]) (by simp [hy]) n hn
theorem open_strw {H : Type} {enc : TypeId × Value → H} {W : World} {fuel : Nat} {c : Value} {y : DataW H × List MemPlace} (hf : DataW.trod enc Tryz.prog W 0 (fun _ => true) true fuel 9 [c] = some y) :
    ∃ s : ByteArray, c = .string s ∧ s.size ≤ 9223372036854775807 ∧ ((y.1.weights Tryz.prog 9).all (· ≤ reachBytes) = true → s.size ≤ 140737488351232) := by
  obtain ⟨s, hc, hx, w⟩ := DataW.trod_string Tryz.underlying9 hf
  refine ⟨s, by simpa using hc, by unfold maxLen at w; omega, fun h => ?_⟩
  rw [hx] at h
  have h2 := List.all_eq_true.1 h s.data.toList.length (by simp [DataW.weights])
  have h3 : s.data.toList.length ≤ 140737488351232 := of_decide_eq_true h2
  rwa [show s.data.toList.length = s.size by simp] at h3
theorem open_intw {H : Type} {enc : TypeId × Value → H} {W : World} {fuel : Nat} {c : Value} {y : DataW H × List MemPlace} (hf : DataW.trod enc Tryz.prog W 0 (fun _ => true) true fuel 3 [c] = some y) :
    ∃ k : Int, c = .int .i64 k := by
  obtain ⟨k, hc, -, -⟩ := DataW.trod_int Tryz.underlying3 hf
  exact ⟨k, by simpa using hc⟩
set_option maxRecDepth 10000 in
theorem open_idw {H : Type} {enc : TypeId × Value → H} {W : World} {fuel : Nat} {c0 c1 : Value} {y : DataW H × List MemPlace} (hf : DataW.trod enc Tryz.prog W 0 (fun _ => true) true fuel 40 [c0, c1] = some y) :
    ∃ h : Im, c0 = .string h.p ∧ c1 = .int .i64 h.n ∧ ((y.1.weights Tryz.prog 40).all (· ≤ reachBytes) = true → h.p.size ≤ 140737488351232) := by
  obtain ⟨xs, n, _, hx, _, hlen, hg⟩ := DataW.trod_struct Tryz.underlying40 hf
  match xs, hlen with
  | [y0, y1], _ =>
    have g0 : DataW.trod enc Tryz.prog W 0 (fun _ => true) true n 9 [c0] = some y0 := hg 0 _ rfl
    have g1 : DataW.trod enc Tryz.prog W 0 (fun _ => true) true n 3 [c1] = some y1 := hg 1 _ rfl
    obtain ⟨s, rfl, -, hs⟩ := open_strw g0
    obtain ⟨k, rfl⟩ := open_intw g1
    refine ⟨⟨s, k⟩, rfl, rfl, fun h => hs ?_⟩
    rw [hx] at h
    exact weigh_field Tryz.underlying40 0 rfl rfl h
set_option maxRecDepth 10000 in
theorem open_op {H : Type} {enc : TypeId × Value → H} {W : World} {fuel : Nat} {cs : List Value} {y : DataW H × List MemPlace} (hf : DataW.trod enc Tryz.prog W 0 (fun _ => true) true fuel 42 cs = some y) (hl : cs.length = 16) :
    ∃ h : Om, cs = h.cells ∧ h.Ok W W.heap.size ∧ ((y.1.weights Tryz.prog 42).all (· ≤ reachBytes) = true → h.In) := by
  obtain ⟨xs, n, _, hx, _, hlen, hg⟩ := DataW.trod_struct Tryz.underlying42 hf
  match cs, hl with
  | [c0, c1, c2, c3, c4, c5, c6, c7, c8, c9, c10, c11, c12, c13, c14, c15], _ =>
    match xs, hlen with
    | [y0, y1, y2, y3, y4, y5, y6, y7, y8, y9, y10], _ =>
      have g0 : DataW.trod enc Tryz.prog W 0 (fun _ => true) true n 3 [c0] = some y0 := hg 0 _ rfl
      have g1 : DataW.trod enc Tryz.prog W 0 (fun _ => true) true n 40 [c1, c2] = some y1 := hg 1 _ rfl
      have g2 : DataW.trod enc Tryz.prog W 0 (fun _ => true) true n 40 [c3, c4] = some y2 := hg 2 _ rfl
      have g3 : DataW.trod enc Tryz.prog W 0 (fun _ => true) true n 40 [c5, c6] = some y3 := hg 3 _ rfl
      have g4 : DataW.trod enc Tryz.prog W 0 (fun _ => true) true n 9 [c7] = some y4 := hg 4 _ rfl
      have g5 : DataW.trod enc Tryz.prog W 0 (fun _ => true) true n 9 [c8] = some y5 := hg 5 _ rfl
      have g6 : DataW.trod enc Tryz.prog W 0 (fun _ => true) true n 40 [c9, c10] = some y6 := hg 6 _ rfl
      have g7 : DataW.trod enc Tryz.prog W 0 (fun _ => true) true n 40 [c11, c12] = some y7 := hg 7 _ rfl
      have g8 : DataW.trod enc Tryz.prog W 0 (fun _ => true) true n 38 [c13] = some y8 := hg 8 _ rfl
      have g9 : DataW.trod enc Tryz.prog W 0 (fun _ => true) true n 3 [c14] = some y9 := hg 9 _ rfl
      have g10 : DataW.trod enc Tryz.prog W 0 (fun _ => true) true n 22 [c15] = some y10 := hg 10 _ rfl
      obtain ⟨k, rfl⟩ := open_intw g0
      obtain ⟨i1, rfl, rfl, z1⟩ := open_idw g1
      obtain ⟨i2, rfl, rfl, z2⟩ := open_idw g2
      obtain ⟨i3, rfl, rfl, z3⟩ := open_idw g3
      obtain ⟨s4, rfl, -, z4⟩ := open_strw g4
      obtain ⟨s5, rfl, -, z5⟩ := open_strw g5
      obtain ⟨i6, rfl, rfl, z6⟩ := open_idw g6
      obtain ⟨i7, rfl, rfl, z7⟩ := open_idw g7
      obtain ⟨A8, s8, p8, rfl, hs8, hm8, hr8⟩ := open_ids g8
      obtain ⟨m, rfl⟩ := open_intw g9
      obtain ⟨A10, s10, p10, rfl, hs10, hm10, hr10⟩ := open_strs g10
      clear g0 g1 g2 g3 g4 g5 g6 g7 g8 g9 g10 hg
      refine ⟨⟨k, i1, i2, i3, s4, s5, i6, i7, A8, p8, s8, m, A10, p10, lists s10⟩, by simp [Om.cells, lists_len], ?_, fun h => ?_⟩
      · exact ⟨hs8, hr8, by rw [toBs_lists]; exact hs10, by rw [lists_len]; exact hr10⟩
      · rw [hx] at h
        have u := Tryz.underlying42
        exact ⟨z4 (weigh_field u 4 rfl rfl h), z5 (weigh_field u 5 rfl rfl h), z1 (weigh_field u 1 rfl rfl h), z2 (weigh_field u 2 rfl rfl h), z3 (weigh_field u 3 rfl rfl h), z6 (weigh_field u 6 rfl rfl h), z7 (weigh_field u 7 rfl rfl h), hm8, by rw [lists_len]; exact hm10⟩
end Go.Proofs.YtoajckhfnadhjaaGreatDoor
namespace Go.Proofs.YtoajckhfnadhjaaGreatDoor
open Go.ChangeShapes Go.WideShapes Go.RowKit
set_option linter.unusedVariables false

theorem weigh_all {H : Type} {P : Program} {e : TypeId} {d : DataW H} : ∀ {ds : List (DataW H)}, d ∈ ds → ∀ n ∈ d.weights P e, n ∈ DataW.weightsAll P e ds
  | d0 :: ds, hd, n, hn => by
    simp only [DataW.weightsAll, List.mem_append]
    rcases List.mem_cons.1 hd with rfl | hd
    · exact .inl hn
    · exact .inr (weigh_all hd n hn)
theorem weigh_elem {H : Type} {P : Program} {t e : TypeId} {elems spare : List (DataW H)} (ht : P.underlying t = some (.slice e)) {d : DataW H} (hd : d ∈ elems)
    (h : ((DataW.slice elems spare).weights P t).all (· ≤ reachBytes) = true) : (d.weights P e).all (· ≤ reachBytes) = true := by
  refine List.all_eq_true.2 fun n hn => List.all_eq_true.1 h n ?_
  simp only [DataW.weights, ht, List.mem_cons, List.mem_append]
  exact .inr (.inl (weigh_all hd n hn))
theorem open_ops {H : Type} {enc : TypeId × Value → H} {W : World} {fuel : Nat} {v : Value} {y : DataW H × List MemPlace} (hf : DataW.trod enc Tryz.prog W 0 (fun _ => true) true fuel 23 [v] = some y) :
    ∃ (A : Option Addr) (hs : List Om) (cap : Nat), v = .slice A hs.length cap ∧ Ops W W.heap.size A hs ∧ hs.length ≤ 9223372036854775807 ∧ Room A hs.length cap ∧ ((y.1.weights Tryz.prog 23).all (· ≤ reachBytes) = true → ∀ h ∈ hs, h.In) := by
  have hlt := DataW.trod_lt fuel _ _ _ hf
  have hC : Tryz.prog.cellsOf 42 = 16 := by kernel_rfl
  rcases Go.Deep.open_slice Tryz.underlying23 hf with ⟨hcs, _⟩ | ⟨a, len, cap, m, n, D, Pl, hcs, _, hl, hm, hmm, hx, hi⟩
  · obtain rfl : v = .slice none 0 0 := by simpa using hcs
    exact ⟨none, [], 0, rfl, ⟨Rk.Row.nil, fun x hx => by simp at hx⟩, by simp, ⟨fun _ => rfl, Nat.le_refl _⟩, fun _ h hh => by simp at hh⟩
  · obtain rfl : v = .slice (some a) len cap := by simpa using hcs
    simp only [if_true] at hmm
    unfold maxLen at hm
    obtain ⟨b, off, spot⟩ := a
    have each : ∀ i, i < len → ∃ h : Om, (∀ j (u : Value), (opR.enc h)[j]? = some u → W.cell? ((⟨b, off, spot⟩ : Addr).add (i * 16 + j)) = some u) ∧ h.Ok W W.heap.size ∧ (((D i).weights Tryz.prog 42).all (· ≤ reachBytes) = true → h.In) := by
      intro i hil
      obtain ⟨cs', hc, ht'⟩ := hi i (by omega)
      rw [hC] at hc
      obtain ⟨_, hcl, hat⟩ := World.cells?_some hc
      obtain ⟨h, rfl, hok, hin⟩ := open_op ht' hcl
      refine ⟨h, fun j u hj => ?_, hok, hin⟩
      rw [← Go.Deep.add_add]
      have hj2 : j < 16 := (List.getElem?_eq_some_iff.1 hj).1
      rw [hat j hj2]
      exact hj
    obtain ⟨hs, hlen, hp⟩ := listof_id len each
    subst hlen
    refine ⟨some ⟨b, off, spot⟩, hs, cap, rfl, ⟨fun hpos => ?_, fun x hx => ?_⟩, by omega, ⟨(fun e => by cases e), hl⟩, fun hall h hh => ?_⟩
    · have h0 := (hp 0 hpos).1 0 _ rfl
      have hspot : spot = none := by simpa [Addr.add] using World.cell?_spot h0
      subst hspot
      have e : ∀ i, (⟨b, off, none⟩ : Addr).add i = ⟨b, off + i, none⟩ := fun i => by unfold Addr.add; split <;> simp_all
      refine ⟨b, off, rfl, ?_, fun i u hu => ?_⟩
      · have h1 := (hp 0 hpos).1 0 _ rfl
        rw [e] at h1
        exact rec_cell_lt h1
      · have hi2 := (List.getElem?_eq_some_iff.1 hu).1
        rw [opR.cells_len] at hi2
        obtain ⟨j, r, hj, hr, rfl⟩ := opR.at_place hs hi2
        rw [opR.cells_get hs j hj r hr] at hu
        have h1 := (hp j hj).1 r u hu
        rw [e] at h1
        exact h1
    · obtain ⟨j, hj, rfl⟩ := List.getElem_of_mem hx
      exact (hp j hj).2.1
    · obtain ⟨j, hj, rfl⟩ := List.getElem_of_mem hh
      refine (hp j hj).2.2 ?_
      rw [hx] at hall
      exact weigh_elem Tryz.underlying23 (List.mem_map.2 ⟨j, List.mem_range.2 hj, rfl⟩) hall
set_option maxRecDepth 10000 in
theorem open_pat {H : Type} {enc : TypeId × Value → H} {W : World} {fuel : Nat} {cs : List Value} {y : DataW H × List MemPlace} (hf : DataW.trod enc Tryz.prog W 0 (fun _ => true) true fuel 25 cs = some y) (hl : cs.length = 3) :
    ∃ h : Ptm, cs = h.cells ∧ h.Ok W W.heap.size ∧ ((y.1.weights Tryz.prog 25).all (· ≤ reachBytes) = true → h.In) := by
  obtain ⟨xs, n, _, hx, _, hlen, hg⟩ := DataW.trod_struct Tryz.underlying25 hf
  match cs, hl with
  | [c0, c1, c2], _ =>
    match xs, hlen with
    | [y0, y1, y2], _ =>
      have g0 : DataW.trod enc Tryz.prog W 0 (fun _ => true) true n 9 [c0] = some y0 := hg 0 _ rfl
      have g1 : DataW.trod enc Tryz.prog W 0 (fun _ => true) true n 22 [c1] = some y1 := hg 1 _ rfl
      have g2 : DataW.trod enc Tryz.prog W 0 (fun _ => true) true n 23 [c2] = some y2 := hg 2 _ rfl
      obtain ⟨s0, rfl, -, z0⟩ := open_strw g0
      obtain ⟨A1, s1, p1, rfl, hs1, hm1, hr1⟩ := open_strs g1
      obtain ⟨A2, l2, p2, rfl, hs2, hm2, hr2, z2⟩ := open_ops g2
      clear g0 g1 g2 hg
      refine ⟨⟨s0, A1, p1, lists s1, A2, p2, l2⟩, by simp [Ptm.cells, lists_len], ?_, fun h => ?_⟩
      · exact ⟨by rw [toBs_lists]; exact hs1, by rw [lists_len]; exact hr1, hs2, hr2⟩
      · rw [hx] at h
        have u := Tryz.underlying25
        exact ⟨z0 (weigh_field u 0 rfl rfl h), by rw [lists_len]; exact hm1, hm2, z2 (weigh_field u 2 rfl rfl h)⟩
end Go.Proofs.YtoajckhfnadhjaaGreatDoor
namespace Go.Proofs.YtoajckhfnadhjaaGreatDoor
open Go.RowKit
set_option linter.unusedVariables false

def LightPL (x : Ptm) (w : World) (e : Ending) (w' : World) : Prop := ∃ r : Bool, e = .returned (.bool r) ∧ Hid (r = true → x.Lt) ∧ Below w.heap.size w w'
set_option maxHeartbeats 8000000 in
set_option maxRecDepth 100000 in
theorem light13_any (x : Ptm) (w : World) (ox : x.Ok w w.heap.size) (ix : x.In) : Calls Tryz.prog 6 #[x.val] w (LightPL x w) := by
  obtain ⟨hb, hx⟩ := pat_box w x
  have HX := Lib.hid hx
  have HF := Lib.hid hb
  have OX := Lib.hid (ox.on hb)
  have IX := Lib.hid ix
  have j1 := ix.few
  have j2 := ix.name
  have j3 := ix.many
  clear hb hx ox ix
  unfold Ptm.val Ptm.cells
  go_enter Tryz.func6, Tryz.ntmps6
  go_upto_region 1 with (fail)
  generalize (w.alloc (.cells #[.string x.name, .slice x.a1 x.deps.length x.c1, .slice x.a2 x.ops.length x.c2] 25)) = wb at *
  generalize (Value.agg #[.string x.name, .slice x.a1 x.deps.length x.c1, .slice x.a2 x.ops.length x.c2]) = vx
  have a0 := HX.out.c0
  have a1 := HX.out.c1
  have a2 := HX.out.c2
  have HNO : Hid (LightPL x w (.returned (.bool false)) wb) := ⟨false, rfl, (fun h => by cases h), HF.out⟩
  by_cases k1 : x.deps.length ≤ 60
  · have q1 : ¬ (x.deps.length : Int) > 60 := by omega
    by_cases k2 : x.name.size ≤ 100
    · have q2 : ¬ (x.name.size : Int) > 100 := by omega
      by_cases k3 : x.ops.length ≤ 30
      · have q3 : ¬ (x.ops.length : Int) > 30 := by omega
        have HG0 : Hid (Below wb.heap.size wb wb) := Below.refl _ _
        clear HNO
        go_wp2
        go_loopw [3] (fun iv wr => ∃ k : Nat, k ≤ x.deps.length ∧ iv = .int .i64 (k : Int) ∧ Hid (∀ t (ht : t < x.deps.length), t < k → x.deps[t].length ≤ 100) ∧ Hid (Below wb.heap.size wb wr)) (fun iv _ => x.deps.length - (intOf iv).toNat)
        case atStart => exact ⟨0, Nat.zero_le _, rfl, fun t _ h => absurd h (by omega), HG0.out⟩
        case round =>
          clear HG0 a0 a1 a2
          obtain ⟨k, hk, rfl, HALL, HG⟩ := hrel
          have a1 := (HX.out.on HG.out).c1
          by_cases hlt : k < x.deps.length
          · have hS := (OX.out.on HG.out).deps
            obtain ⟨b, off, eA, hbB, hcs⟩ := hS.at_ (k := k) (by rw [toBs_len]; exact hlt)
            have hcell : wr.cell? ⟨b, off + k, none⟩ = some (.string (toB x.deps[k])) := by rw [hcs]; congr 2; simp [toBs]
            obtain ⟨d, hd⟩ : ∃ d, x.deps[k] = d := ⟨_, rfl⟩
            have HD := Lib.hid hd
            rw [hd] at hcell
            obtain ⟨s, hs⟩ : ∃ s, toB d = s := ⟨_, rfl⟩
            have hsz : s.size = d.length := by rw [← hs, toB_size]
            have HSZ := Lib.hid hsz
            rw [hs] at hcell
            rw [eA] at a1
            have u0 : (0 : Int) ≤ (k : Int) := by omega
            have u1 : (k : Int) < (x.deps.length : Int) := by omega
            clear hS eA hbB hcs hd hs hsz
            by_cases k4 : s.size ≤ 100
            · have q4 : ¬ (s.size : Int) > 100 := by omega
              have HALL2 : Hid (∀ t (ht : t < x.deps.length), t < k + 1 → x.deps[t].length ≤ 100) := fun t ht htk => by
                by_cases e : t = k
                · subst e
                  rw [HD.out, ← HSZ.out]
                  exact k4
                · exact HALL.out t ht (by omega)
              clear HALL
              go_wp2
              go_roundw
              case rel => exact ⟨k + 1, by omega, by go_num, HALL2.out, HG.out⟩
              case measure => simp [intOf]; omega
            · have q4 : (s.size : Int) > 100 := by omega
              have HNO : Hid (LightPL x w (.returned (.bool false)) wr) := ⟨false, rfl, (fun h => by cases h), HF.out.trans (HG.out.mono HF.out.size)⟩
              clear HALL
              go_wp2
              go_ret
              exact HNO.out
          · have a2 := (HX.out.on HG.out).c2
            have CL := Lib.hid (light12_any x.a2 x.ops x.c2 wr (OX.out.on HG.out).ops IX.out.ops (by omega))
            have HDL : Hid (∀ d ∈ x.deps, d.length ≤ 100) := fun d hd => by
              obtain ⟨j, hj, rfl⟩ := List.getElem_of_mem hd
              exact HALL.out j hj (by omega)
            clear HALL
            go_wp2_with fail
            refine CL.out.mono ?_
            rintro e w2 ⟨r, rfl, hl, hb2⟩
            have HFN : Hid (LightPL x w (.returned (.bool r)) w2) := ⟨r, rfl, fun h => ⟨k2, k1, k3, HDL.out, hl.out h⟩, HF.out.trans ((HG.out.trans (hb2.mono HG.out.size)).mono HF.out.size)⟩
            clear hl hb2 CL HG
            go_wp2
            go_ret
            exact HFN.out
      · have q3 : (x.ops.length : Int) > 30 := by omega
        go_wp2
        go_ret
        exact HNO.out
    · have q2 : (x.name.size : Int) > 100 := by omega
      go_wp2
      go_ret
      exact HNO.out
  · have q1 : (x.deps.length : Int) > 60 := by omega
    go_wp2
    go_ret
    exact HNO.out
end Go.Proofs.YtoajckhfnadhjaaGreatDoor
