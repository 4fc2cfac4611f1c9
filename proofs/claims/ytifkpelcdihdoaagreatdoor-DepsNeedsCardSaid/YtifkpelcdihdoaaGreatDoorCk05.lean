/- The statements' Light of layer 12. What an operation that comes in holds. What a patch that comes in holds. Words for memory: rows of patches. Light of layer 13. A call hands back a row of ids of its own. The reference's Less, Has, Same of ids. make of a row of records. -/
import Derived.Test.YtifkpelcdihdoaaGreatDoorProg
import Derived.WalkKit
import Derived.WalkSpells
import Derived.Handy
import Derived.Lib.Hide
import Derived.Shelf.Strings.BuilderK
import Derived.BigQuiet
import Derived.Deep.QuietTactic
import Derived.Lib.AtoiAllCases
import Derived.Lib.ItoaMem
import Derived.Test.YtifkpelcdihdoaaGreatDoorShelf
import Derived.Deep.RegionHeld3
import Derived.Deep.CutRange
import Derived.Lib.AppendIntMem
import Derived.ChangeArms
import Derived.Deep.Slices
import Derived.Deep.Fields
import Derived.ChangeSame
import Derived.SizedLaws
import Derived.Laws.MakeOwn
import Derived.Test.YtifkpelcdihdoaaGreatDoorCk04
namespace Go.Proofs.YtifkpelcdihdoaaGreatDoor
open Go.RowKit
set_option linter.unusedVariables false

/-- An operation that comes in: none of its texts is larger than memory. -/
structure Om.In (x : Om) : Prop where
  name : x.name.size ≤ 140737488351232
  dname : x.dname.size ≤ 140737488351232
  self : x.self.p.size ≤ 140737488351232
  parent : x.parent.p.size ≤ 140737488351232
  dst : x.dst.p.size ≤ 140737488351232
  left : x.left.p.size ≤ 140737488351232
  right : x.right.p.size ≤ 140737488351232
  few : x.dels.length ≤ 9223372036854775807
  rows : x.lines.length ≤ 9223372036854775807
/-- An operation that is not far too large. -/
structure Om.Lt (x : Om) : Prop where
  name : x.name.size ≤ 400
  dname : x.dname.size ≤ 400
  self : x.self.p.size ≤ 400
  parent : x.parent.p.size ≤ 400
  dst : x.dst.p.size ≤ 400
  left : x.left.p.size ≤ 400
  right : x.right.p.size ≤ 400
  few : x.dels.length ≤ 40
  lines : light3B (toBs x.lines) = true
  dels : ∀ i ∈ x.dels, i.p.size ≤ 100
theorem light3k_any (A : Option Addr) (l : List (List UInt8)) (c : Nat) (w : World) (hs : Strs w w.heap.size A (toBs l)) (hn : l.length ≤ 9223372036854775807) (r : Bool) (hr : light3B (toBs l) = r) :
    Calls Tryz.prog 57 #[.slice A l.length c] w fun e w' => e = .returned (.bool r) ∧ w = w' := by
  have h := light3_any A (toBs l) c w hs (by rw [toBs_len]; exact hn)
  rw [toBs_len, hr] at h
  exact h
theorem elem_ops : Tryz.prog.elem 33 = 84 := by kernel_rfl
theorem ops_und : Tryz.prog.underlying 33 = some (.slice (Tryz.prog.elem 33)) := by
  rw [elem_ops]
  exact Tryz.underlying33
theorem size_op (W : World) : (sizeOf 84).run Tryz.prog W = .ok 16 W := by
  cases h : Tryz.prog.info? 84 with
  | some i =>
    have h2 := sized_op
    rw [h] at h2
    simp only [Option.map_some, Option.some.injEq] at h2
    simp [sizeOf, typeInfo, h, h2, Sem.run_bind]
  | none => exact absurd h (by have h2 : (Tryz.prog.info? 84).isSome = true := by kernel_rfl
                               intro h3; rw [h3] at h2; cases h2)
theorem op_indexAt {A : Option Addr} {b off n c k : Nat} (e : A = some ⟨b, off, none⟩) (hk : k < n) (W : World) : (Instr.indexAt 33 (.slice A n c) (.int .i64 (k : Int))).run Tryz.prog W = .ok (.pointer (some ⟨b, off + k * 16, none⟩)) W := by
  subst e
  rw [run_indexAt_slice (h := ops_und), if_pos (by omega), elem_ops, size_op, Result.andThen_ok]
  have e2 : (⟨b, off, none⟩ : Addr).add ((k : Int).toNat * 16) = ⟨b, off + k * 16, none⟩ := by unfold Addr.add; split <;> simp_all
  rw [e2]
/-- What Light tells. -/
def LightLeft (l : List Om) (w : World) (e : Ending) (w' : World) : Prop := ∃ r : Bool, e = .returned (.bool r) ∧ Hid (r = true → ∀ x ∈ l, x.Lt) ∧ Below w.heap.size w w'
set_option maxHeartbeats 8000000 in
set_option maxRecDepth 100000 in
theorem light12_any (A : Option Addr) (l : List Om) (cap : Nat) (w : World) (hs : Ops w w.heap.size A l) (hi : ∀ x ∈ l, x.In) (hn : l.length ≤ 1000) :
    Calls Tryz.prog 33 #[.slice A l.length cap] w (LightLeft l w) := by
  have HS := Lib.hid hs
  have HI := Lib.hid hi
  clear hs hi
  go_enter Tryz.func33, Tryz.ntmps33
  go_wp2
  go_loopw [3] (fun i wr => ∃ k : Nat, k ≤ l.length ∧ i = .int .i64 (k : Int) ∧ Hid (∀ j (hj : j < l.length), j < k → l[j].Lt) ∧ Hid (Below w.heap.size w wr)) (fun i _ => l.length - (intOf i).toNat)
  case atStart => exact ⟨0, Nat.zero_le _, rfl, fun j _ h => absurd h (by omega), Below.refl _ _⟩
  case round =>
    obtain ⟨k, hk, rfl, hall, hbr⟩ := hrel
    by_cases hlt : k < l.length
    · have hS := HS.out.on hbr.out
      obtain ⟨b, off, eA, _, hc⟩ := hS.1.get hlt
      have hox := hS.2 _ (List.getElem_mem hlt)
      have hin := HI.out _ (List.getElem_mem hlt)
      have IA := op_indexAt (c := cap) eA hlt
      have HNX : Hid (l[k].Lt → ∀ j (hj : j < l.length), j < k + 1 → l[j].Lt) := fun h j hj hjk => by
        by_cases e : j = k
        · subst e; exact h
        · exact hall.out j hj (by omega)
      have u0 : (0 : Int) ≤ (k : Int) := by omega
      have u1 : (k : Int) < (l.length : Int) := by omega
      clear hS eA hall
      generalize l[k] = x at *
      have RX : wr.rangeAt b (off + k * 16) [.int .i64 x.kind, .string x.self.p, .int .i64 x.self.n, .string x.parent.p, .int .i64 x.parent.n, .string x.dst.p, .int .i64 x.dst.n, .string x.name, .string x.dname, .string x.left.p, .int .i64 x.left.n, .string x.right.p, .int .i64 x.right.n, .slice x.a1 x.dels.length x.c1, .int .i64 x.first, .slice x.a2 x.lines.length x.c2] := fun j v hv => hc j v hv
      obtain ⟨hbx, hX⟩ := op_box wr x
      have HX := Lib.hid hX
      have OX := Lib.hid (hox.on hbx)
      have HB := Lib.hid (hbr.out.trans (hbx.mono hbr.out.size))
      have HIN := Lib.hid hin
      clear hc hox hbx hX hbr hin
      -- @P1
      go_upto_region 5 with (refine wpList_load_mid rfl 84 _ rfl b (off + k * 16) rfl [.int .i64 x.kind, .string x.self.p, .int .i64 x.self.n, .string x.parent.p, .int .i64 x.parent.n, .string x.dst.p, .int .i64 x.dst.n, .string x.name, .string x.dname, .string x.left.p, .int .i64 x.left.n, .string x.right.p, .int .i64 x.right.n, .slice x.a1 x.dels.length x.c1, .int .i64 x.first, .slice x.a2 x.lines.length x.c2] _ RX Tryz.underlying84 rfl (by kernel_rfl) ?_)
      generalize (wr.alloc (.cells #[.int .i64 x.kind, .string x.self.p, .int .i64 x.self.n, .string x.parent.p, .int .i64 x.parent.n, .string x.dst.p, .int .i64 x.dst.n, .string x.name, .string x.dname, .string x.left.p, .int .i64 x.left.n, .string x.right.p, .int .i64 x.right.n, .slice x.a1 x.dels.length x.c1, .int .i64 x.first, .slice x.a2 x.lines.length x.c2] 84)) = wx at *
      -- @P2
      have hin := HIN.out
      have oc := op_cells HX.out
      have c_dels := oc.dels
      have c_lines := oc.lines
      have c_name := oc.name
      have c_dname := oc.dname
      have c_selfp := oc.selfp
      have c_parentp := oc.parentp
      have c_dstp := oc.dstp
      have c_leftp := oc.leftp
      have c_rightp := oc.rightp
      clear oc RX IA
      by_cases h1 : 40 < x.dels.length
      · have q1 : (x.dels.length : Int) > 40 := by omega
        have HV : Hid (false = true → ∀ x ∈ l, x.Lt) := fun h => by cases h
        clear HNX hin
        go_wp2
        go_ret
        exact ⟨false, rfl, HV, HB.out⟩
      have q1 : ¬ (x.dels.length : Int) > 40 := by omega
      cases h2 : light3B (toBs x.lines)
      · have CL := Lib.hid (light3k_any x.a2 x.lines x.c2 wx OX.out.lines hin.rows false h2)
        have HV : Hid (false = true → ∀ x ∈ l, x.Lt) := fun h => by cases h
        clear HNX hin
        go_wp2_with fail
        refine CL.out.mono ?_
        rintro e w1 ⟨rfl, hw⟩
        subst hw
        go_wp2
        go_ret
        exact ⟨false, rfl, HV, HB.out⟩
      have CL := Lib.hid (light3k_any x.a2 x.lines x.c2 wx OX.out.lines hin.rows true h2)
      have hi1 := hin.name
      have hi2 := hin.dname
      have hi3 := hin.self
      have hi4 := hin.parent
      have hi5 := hin.dst
      have hi6 := hin.left
      have hi7 := hin.right
      have g0 : IntKind.i64.wrap (((x.name.size : Nat) : Int) + ((x.dname.size : Nat) : Int)) = ((x.name.size : Nat) : Int) + ((x.dname.size : Nat) : Int) := IntWalk.i64_in _ (by omega)
      have g1 : IntKind.i64.wrap ((((x.name.size : Nat) : Int) + ((x.dname.size : Nat) : Int)) + ((x.self.p.size : Nat) : Int)) = (((x.name.size : Nat) : Int) + ((x.dname.size : Nat) : Int)) + ((x.self.p.size : Nat) : Int) := IntWalk.i64_in _ (by omega)
      have g2 : IntKind.i64.wrap (((((x.name.size : Nat) : Int) + ((x.dname.size : Nat) : Int)) + ((x.self.p.size : Nat) : Int)) + ((x.parent.p.size : Nat) : Int)) = ((((x.name.size : Nat) : Int) + ((x.dname.size : Nat) : Int)) + ((x.self.p.size : Nat) : Int)) + ((x.parent.p.size : Nat) : Int) := IntWalk.i64_in _ (by omega)
      have g3 : IntKind.i64.wrap ((((((x.name.size : Nat) : Int) + ((x.dname.size : Nat) : Int)) + ((x.self.p.size : Nat) : Int)) + ((x.parent.p.size : Nat) : Int)) + ((x.dst.p.size : Nat) : Int)) = (((((x.name.size : Nat) : Int) + ((x.dname.size : Nat) : Int)) + ((x.self.p.size : Nat) : Int)) + ((x.parent.p.size : Nat) : Int)) + ((x.dst.p.size : Nat) : Int) := IntWalk.i64_in _ (by omega)
      have g4 : IntKind.i64.wrap (((((((x.name.size : Nat) : Int) + ((x.dname.size : Nat) : Int)) + ((x.self.p.size : Nat) : Int)) + ((x.parent.p.size : Nat) : Int)) + ((x.dst.p.size : Nat) : Int)) + ((x.left.p.size : Nat) : Int)) = ((((((x.name.size : Nat) : Int) + ((x.dname.size : Nat) : Int)) + ((x.self.p.size : Nat) : Int)) + ((x.parent.p.size : Nat) : Int)) + ((x.dst.p.size : Nat) : Int)) + ((x.left.p.size : Nat) : Int) := IntWalk.i64_in _ (by omega)
      have g5 : IntKind.i64.wrap ((((((((x.name.size : Nat) : Int) + ((x.dname.size : Nat) : Int)) + ((x.self.p.size : Nat) : Int)) + ((x.parent.p.size : Nat) : Int)) + ((x.dst.p.size : Nat) : Int)) + ((x.left.p.size : Nat) : Int)) + ((x.right.p.size : Nat) : Int)) = (((((((x.name.size : Nat) : Int) + ((x.dname.size : Nat) : Int)) + ((x.self.p.size : Nat) : Int)) + ((x.parent.p.size : Nat) : Int)) + ((x.dst.p.size : Nat) : Int)) + ((x.left.p.size : Nat) : Int)) + ((x.right.p.size : Nat) : Int) := IntWalk.i64_in _ (by omega)
      clear hi1 hi2 hi3 hi4 hi5 hi6 hi7
      by_cases h3 : ((((((((x.name.size : Nat) : Int) + ((x.dname.size : Nat) : Int)) + ((x.self.p.size : Nat) : Int)) + ((x.parent.p.size : Nat) : Int)) + ((x.dst.p.size : Nat) : Int)) + ((x.left.p.size : Nat) : Int)) + ((x.right.p.size : Nat) : Int)) > 400
      · have HV : Hid (false = true → ∀ x ∈ l, x.Lt) := fun h => by cases h
        clear HNX hin
        go_wp2_with fail
        refine CL.out.mono ?_
        rintro e w1 ⟨rfl, hw⟩
        subst hw
        go_wp2
        go_ret
        exact ⟨false, rfl, HV, HB.out⟩
      have HNX2 : Hid ((∀ i ∈ x.dels, i.p.size ≤ 100) → ∀ j (hj : j < l.length), j < k + 1 → l[j].Lt) := fun h => HNX.out ⟨by omega, by omega, by omega, by omega, by omega, by omega, by omega, by omega, h2, h⟩
      clear HNX hin
      -- @P3
      go_wp2_with fail
      refine CL.out.mono ?_
      rintro e w1 ⟨rfl, hw⟩
      subst hw
      clear CL
      have h4 : x.dels.length ≤ 40 := by omega
      go_upto_region 7 with (fail)
      clear g0 g1 g2 g3 g4 g5 h3 c_name c_dname c_selfp c_parentp c_dstp c_leftp c_rightp c_lines q1 h2 h1 c_dels
      -- @P4
      have HG0 : Hid (Below wx.heap.size wx wx) := Below.refl _ _
      go_wp2
      go_loopw [5] (fun i w2 => ∃ q : Nat, q ≤ x.dels.length ∧ i = .int .i64 (q : Int) ∧ Hid (∀ j (hj : j < x.dels.length), j < q → x.dels[j].p.size ≤ 100) ∧ Hid (Below wx.heap.size wx w2)) (fun i _ => x.dels.length - (intOf i).toNat)
      case atStart => exact ⟨0, Nat.zero_le _, rfl, fun j _ h => absurd h (by omega), HG0.out⟩
      case round =>
        clear HG0
        obtain ⟨q, hq, rfl, hdl, hb2⟩ := hrel
        have c_dels := (op_cells (HX.out.on hb2.out)).dels
        have HB2 := Lib.hid (HB.out.trans (hb2.out.mono HB.out.size))
        by_cases hql : q < x.dels.length
        · obtain ⟨bd, od, eD, _, d0, d1⟩ := ids_get (OX.out.dels.on hb2.out) hql
          have ID := id_indexAt (c := x.c1) eD hql
          have v0 : (0 : Int) ≤ (q : Int) := by omega
          have v1 : (q : Int) < (x.dels.length : Int) := by omega
          have hcase : (100 < x.dels[q].p.size) ∨ (x.dels[q].p.size ≤ 100 ∧ Hid (∀ j (hj : j < x.dels.length), j < q + 1 → x.dels[j].p.size ≤ 100)) := by
            by_cases e : 100 < x.dels[q].p.size
            · exact .inl e
            · refine .inr ⟨by omega, fun j hj hjq => ?_⟩
              by_cases ej : j = q
              · subst ej; omega
              · exact hdl.out j hj (by omega)
          have HBW : Hid (Below wx.heap.size wx wr) := hb2
          clear eD hdl hb2 d1
          generalize x.dels[q] = y at *
          -- @P5
          rcases hcase with hbig | ⟨hsm, HD2⟩
          · have qb : (y.p.size : Int) > 100 := by omega
            have HV : Hid (false = true → ∀ x ∈ l, x.Lt) := fun h => by cases h
            clear HNX2
            go_wp2
            go_ret
            exact ⟨false, rfl, HV, HB2.out⟩
          · have qb : ¬ (y.p.size : Int) > 100 := by omega
            go_wp2
            go_roundw
            case rel => exact ⟨q + 1, by omega, by go_num, HD2, HBW⟩
            case measure => simp [intOf]; omega
        · have hqe : q = x.dels.length := by omega
          have v1 : ¬ (q : Int) < (x.dels.length : Int) := by omega
          have HNEW : Hid (∀ j (hj : j < l.length), j < k + 1 → l[j].Lt) := HNX2.out fun i hi => by
            obtain ⟨j, hj, rfl⟩ := List.getElem_of_mem hi
            exact hdl.out j hj (by omega)
          clear HNX2 hdl hb2 hqe
          go_wp2
          go_roundw
          case rel => exact ⟨k + 1, by omega, by go_num, HNEW, HB2⟩
          case measure => simp [intOf]; omega
    · obtain rfl : k = l.length := by omega
      have hv : (l.length : Int) ≤ 40 ∨ ¬ (l.length : Int) ≤ 40 := by omega
      have HV : Hid (∀ r : Bool, r = true → ∀ x ∈ l, x.Lt) := fun r _ x hx => by
        obtain ⟨j, hj, rfl⟩ := List.getElem_of_mem hx
        exact hall.out j hj hj
      clear hall
      go_wp2
      go_ret
      exact ⟨_, rfl, HV.out _, hbr.out⟩
end Go.Proofs.YtifkpelcdihdoaaGreatDoor
namespace Go.Proofs.YtifkpelcdihdoaaGreatDoor
open Go.ChangeShapes Go.WideShapes Go.RowKit
set_option linter.unusedVariables false

theorem weigh_field {H : Type} {P : Program} {t : TypeId} {fs : Array Field} {xs : List (DataW H × List MemPlace)} (ht : P.underlying t = some (.struct fs)) (j : Nat) {f : Field} {y : DataW H × List MemPlace} (hf : fs[j]? = some f) (hy : xs[j]? = some y)
    (h : ((DataW.agg (xs.map (·.1))).weights P t).all (· ≤ reachBytes) = true) : (y.1.weights P f.type).all (· ≤ reachBytes) = true := by
  refine List.all_eq_true.2 fun n hn => List.all_eq_true.1 h n ?_
  simp only [DataW.weights, ht]
  exact DataW.weights_mem_each (j := j) (by simp [hf]) (by simp [hy]) n hn
theorem open_strw {H : Type} {enc : TypeId × Value → H} {W : World} {fuel : Nat} {c : Value} {y : DataW H × List MemPlace} (hf : DataW.trod enc Tryz.prog W 0 (fun _ => true) true fuel 9 [c] = some y) :
    ∃ s : ByteArray, c = .string s ∧ s.size ≤ 9223372036854775807 ∧ ((y.1.weights Tryz.prog 9).all (· ≤ reachBytes) = true → s.size ≤ 140737488351232) := by
  obtain ⟨s, hc, hx, w⟩ := DataW.trod_string Tryz.underlying9 hf
  refine ⟨s, by simpa using hc, by unfold maxLen at w; omega, fun h => ?_⟩
  rw [hx] at h
  have h2 := List.all_eq_true.1 h s.data.toList.length (by simp [DataW.weights])
  have h3 : s.data.toList.length ≤ 140737488351232 := of_decide_eq_true h2
  rwa [show s.data.toList.length = s.size by simp] at h3
theorem open_intw {H : Type} {enc : TypeId × Value → H} {W : World} {fuel : Nat} {c : Value} {y : DataW H × List MemPlace} (hf : DataW.trod enc Tryz.prog W 0 (fun _ => true) true fuel 3 [c] = some y) :
    ∃ k : Int, c = .int .i64 k := by
  obtain ⟨k, hc, -, -⟩ := DataW.trod_int Tryz.underlying3 hf
  exact ⟨k, by simpa using hc⟩
set_option maxRecDepth 10000 in
theorem open_idw {H : Type} {enc : TypeId × Value → H} {W : World} {fuel : Nat} {c0 c1 : Value} {y : DataW H × List MemPlace} (hf : DataW.trod enc Tryz.prog W 0 (fun _ => true) true fuel 81 [c0, c1] = some y) :
    ∃ h : Im, c0 = .string h.p ∧ c1 = .int .i64 h.n ∧ ((y.1.weights Tryz.prog 81).all (· ≤ reachBytes) = true → h.p.size ≤ 140737488351232) := by
  obtain ⟨xs, n, _, hx, _, hlen, hg⟩ := DataW.trod_struct Tryz.underlying81 hf
  match xs, hlen with
  | [y0, y1], _ =>
    have g0 : DataW.trod enc Tryz.prog W 0 (fun _ => true) true n 9 [c0] = some y0 := hg 0 _ rfl
    have g1 : DataW.trod enc Tryz.prog W 0 (fun _ => true) true n 3 [c1] = some y1 := hg 1 _ rfl
    obtain ⟨s, rfl, -, hs⟩ := open_strw g0
    obtain ⟨k, rfl⟩ := open_intw g1
    refine ⟨⟨s, k⟩, rfl, rfl, fun h => hs ?_⟩
    rw [hx] at h
    exact weigh_field Tryz.underlying81 0 rfl rfl h
set_option maxRecDepth 10000 in
theorem open_op {H : Type} {enc : TypeId × Value → H} {W : World} {fuel : Nat} {cs : List Value} {y : DataW H × List MemPlace} (hf : DataW.trod enc Tryz.prog W 0 (fun _ => true) true fuel 84 cs = some y) (hl : cs.length = 16) :
    ∃ h : Om, cs = h.cells ∧ h.Ok W W.heap.size ∧ ((y.1.weights Tryz.prog 84).all (· ≤ reachBytes) = true → h.In) := by
  obtain ⟨xs, n, _, hx, _, hlen, hg⟩ := DataW.trod_struct Tryz.underlying84 hf
  match cs, hl with
  | [c0, c1, c2, c3, c4, c5, c6, c7, c8, c9, c10, c11, c12, c13, c14, c15], _ =>
    match xs, hlen with
    | [y0, y1, y2, y3, y4, y5, y6, y7, y8, y9, y10], _ =>
      have g0 : DataW.trod enc Tryz.prog W 0 (fun _ => true) true n 3 [c0] = some y0 := hg 0 _ rfl
      have g1 : DataW.trod enc Tryz.prog W 0 (fun _ => true) true n 81 [c1, c2] = some y1 := hg 1 _ rfl
      have g2 : DataW.trod enc Tryz.prog W 0 (fun _ => true) true n 81 [c3, c4] = some y2 := hg 2 _ rfl
      have g3 : DataW.trod enc Tryz.prog W 0 (fun _ => true) true n 81 [c5, c6] = some y3 := hg 3 _ rfl
      have g4 : DataW.trod enc Tryz.prog W 0 (fun _ => true) true n 9 [c7] = some y4 := hg 4 _ rfl
      have g5 : DataW.trod enc Tryz.prog W 0 (fun _ => true) true n 9 [c8] = some y5 := hg 5 _ rfl
      have g6 : DataW.trod enc Tryz.prog W 0 (fun _ => true) true n 81 [c9, c10] = some y6 := hg 6 _ rfl
      have g7 : DataW.trod enc Tryz.prog W 0 (fun _ => true) true n 81 [c11, c12] = some y7 := hg 7 _ rfl
      have g8 : DataW.trod enc Tryz.prog W 0 (fun _ => true) true n 82 [c13] = some y8 := hg 8 _ rfl
      have g9 : DataW.trod enc Tryz.prog W 0 (fun _ => true) true n 3 [c14] = some y9 := hg 9 _ rfl
      have g10 : DataW.trod enc Tryz.prog W 0 (fun _ => true) true n 23 [c15] = some y10 := hg 10 _ rfl
      obtain ⟨k, rfl⟩ := open_intw g0
      obtain ⟨i1, rfl, rfl, z1⟩ := open_idw g1
      obtain ⟨i2, rfl, rfl, z2⟩ := open_idw g2
      obtain ⟨i3, rfl, rfl, z3⟩ := open_idw g3
      obtain ⟨s4, rfl, -, z4⟩ := open_strw g4
      obtain ⟨s5, rfl, -, z5⟩ := open_strw g5
      obtain ⟨i6, rfl, rfl, z6⟩ := open_idw g6
      obtain ⟨i7, rfl, rfl, z7⟩ := open_idw g7
      obtain ⟨A8, s8, p8, rfl, hs8, hm8, hr8⟩ := open_ids g8
      obtain ⟨m, rfl⟩ := open_intw g9
      obtain ⟨A10, s10, p10, rfl, hs10, hm10, hr10⟩ := open_strs g10
      clear g0 g1 g2 g3 g4 g5 g6 g7 g8 g9 g10 hg
      refine ⟨⟨k, i1, i2, i3, s4, s5, i6, i7, A8, p8, s8, m, A10, p10, lists s10⟩, by simp [Om.cells, lists_len], ?_, fun h => ?_⟩
      · exact ⟨hs8, hr8, by rw [toBs_lists]; exact hs10, by rw [lists_len]; exact hr10⟩
      · rw [hx] at h
        have u := Tryz.underlying84
        exact ⟨z4 (weigh_field u 4 rfl rfl h), z5 (weigh_field u 5 rfl rfl h), z1 (weigh_field u 1 rfl rfl h), z2 (weigh_field u 2 rfl rfl h), z3 (weigh_field u 3 rfl rfl h), z6 (weigh_field u 6 rfl rfl h), z7 (weigh_field u 7 rfl rfl h), hm8, by rw [lists_len]; exact hm10⟩
end Go.Proofs.YtifkpelcdihdoaaGreatDoor
namespace Go.Proofs.YtifkpelcdihdoaaGreatDoor
open Go.ChangeShapes Go.WideShapes Go.RowKit
set_option linter.unusedVariables false

/-- A patch that came in: its texts' and rows' lengths. -/
structure Ptm.In (x : Ptm) : Prop where
  name : x.name.size ≤ 140737488351232
  few : x.deps.length ≤ 9223372036854775807
  many : x.ops.length ≤ 9223372036854775807
  ops : ∀ o ∈ x.ops, o.In
theorem weigh_all {H : Type} {P : Program} {e : TypeId} {d : DataW H} : ∀ {ds : List (DataW H)}, d ∈ ds → ∀ n ∈ d.weights P e, n ∈ DataW.weightsAll P e ds
  | d0 :: ds, hd, n, hn => by
    simp only [DataW.weightsAll, List.mem_append]
    rcases List.mem_cons.1 hd with rfl | hd
    · exact .inl hn
    · exact .inr (weigh_all hd n hn)
theorem weigh_elem {H : Type} {P : Program} {t e : TypeId} {elems spare : List (DataW H)} (ht : P.underlying t = some (.slice e)) {d : DataW H} (hd : d ∈ elems)
    (h : ((DataW.slice elems spare).weights P t).all (· ≤ reachBytes) = true) : (d.weights P e).all (· ≤ reachBytes) = true := by
  refine List.all_eq_true.2 fun n hn => List.all_eq_true.1 h n ?_
  simp only [DataW.weights, ht, List.mem_cons, List.mem_append]
  exact .inr (.inl (weigh_all hd n hn))
theorem open_ops {H : Type} {enc : TypeId × Value → H} {W : World} {fuel : Nat} {v : Value} {y : DataW H × List MemPlace} (hf : DataW.trod enc Tryz.prog W 0 (fun _ => true) true fuel 33 [v] = some y) :
    ∃ (A : Option Addr) (hs : List Om) (cap : Nat), v = .slice A hs.length cap ∧ Ops W W.heap.size A hs ∧ hs.length ≤ 9223372036854775807 ∧ Room A hs.length cap ∧ ((y.1.weights Tryz.prog 33).all (· ≤ reachBytes) = true → ∀ h ∈ hs, h.In) := by
  have hlt := DataW.trod_lt fuel _ _ _ hf
  have hC : Tryz.prog.cellsOf 84 = 16 := by kernel_rfl
  rcases Go.Deep.open_slice Tryz.underlying33 hf with ⟨hcs, _⟩ | ⟨a, len, cap, m, n, D, Pl, hcs, _, hl, hm, hmm, hx, hi⟩
  · obtain rfl : v = .slice none 0 0 := by simpa using hcs
    exact ⟨none, [], 0, rfl, ⟨Rk.Row.nil, fun x hx => by simp at hx⟩, by simp, ⟨fun _ => rfl, Nat.le_refl _⟩, fun _ h hh => by simp at hh⟩
  · obtain rfl : v = .slice (some a) len cap := by simpa using hcs
    simp only [if_true] at hmm
    unfold maxLen at hm
    obtain ⟨b, off, spot⟩ := a
    have each : ∀ i, i < len → ∃ h : Om, (∀ j (u : Value), (opR.enc h)[j]? = some u → W.cell? ((⟨b, off, spot⟩ : Addr).add (i * 16 + j)) = some u) ∧ h.Ok W W.heap.size ∧ (((D i).weights Tryz.prog 84).all (· ≤ reachBytes) = true → h.In) := by
      intro i hil
      obtain ⟨cs', hc, ht'⟩ := hi i (by omega)
      rw [hC] at hc
      obtain ⟨_, hcl, hat⟩ := World.cells?_some hc
      obtain ⟨h, rfl, hok, hin⟩ := open_op ht' hcl
      refine ⟨h, fun j u hj => ?_, hok, hin⟩
      rw [← Go.Deep.add_add]
      have hj2 : j < 16 := (List.getElem?_eq_some_iff.1 hj).1
      rw [hat j hj2]
      exact hj
    obtain ⟨hs, hlen, hp⟩ := listof_id len each
    subst hlen
    refine ⟨some ⟨b, off, spot⟩, hs, cap, rfl, ⟨fun hpos => ?_, fun x hx => ?_⟩, by omega, ⟨(fun e => by cases e), hl⟩, fun hall h hh => ?_⟩
    · have h0 := (hp 0 hpos).1 0 _ rfl
      have hspot : spot = none := by simpa [Addr.add] using World.cell?_spot h0
      subst hspot
      have e : ∀ i, (⟨b, off, none⟩ : Addr).add i = ⟨b, off + i, none⟩ := fun i => by unfold Addr.add; split <;> simp_all
      refine ⟨b, off, rfl, ?_, fun i u hu => ?_⟩
      · have h1 := (hp 0 hpos).1 0 _ rfl
        rw [e] at h1
        exact rec_cell_lt h1
      · have hi2 := (List.getElem?_eq_some_iff.1 hu).1
        rw [opR.cells_len] at hi2
        obtain ⟨j, r, hj, hr, rfl⟩ := opR.at_place hs hi2
        rw [opR.cells_get hs j hj r hr] at hu
        have h1 := (hp j hj).1 r u hu
        rw [e] at h1
        exact h1
    · obtain ⟨j, hj, rfl⟩ := List.getElem_of_mem hx
      exact (hp j hj).2.1
    · obtain ⟨j, hj, rfl⟩ := List.getElem_of_mem hh
      refine (hp j hj).2.2 ?_
      rw [hx] at hall
      exact weigh_elem Tryz.underlying33 (List.mem_map.2 ⟨j, List.mem_range.2 hj, rfl⟩) hall
set_option maxRecDepth 10000 in
theorem open_pat {H : Type} {enc : TypeId × Value → H} {W : World} {fuel : Nat} {cs : List Value} {y : DataW H × List MemPlace} (hf : DataW.trod enc Tryz.prog W 0 (fun _ => true) true fuel 35 cs = some y) (hl : cs.length = 3) :
    ∃ h : Ptm, cs = h.cells ∧ h.Ok W W.heap.size ∧ ((y.1.weights Tryz.prog 35).all (· ≤ reachBytes) = true → h.In) := by
  obtain ⟨xs, n, _, hx, _, hlen, hg⟩ := DataW.trod_struct Tryz.underlying35 hf
  match cs, hl with
  | [c0, c1, c2], _ =>
    match xs, hlen with
    | [y0, y1, y2], _ =>
      have g0 : DataW.trod enc Tryz.prog W 0 (fun _ => true) true n 9 [c0] = some y0 := hg 0 _ rfl
      have g1 : DataW.trod enc Tryz.prog W 0 (fun _ => true) true n 23 [c1] = some y1 := hg 1 _ rfl
      have g2 : DataW.trod enc Tryz.prog W 0 (fun _ => true) true n 33 [c2] = some y2 := hg 2 _ rfl
      obtain ⟨s0, rfl, -, z0⟩ := open_strw g0
      obtain ⟨A1, s1, p1, rfl, hs1, hm1, hr1⟩ := open_strs g1
      obtain ⟨A2, l2, p2, rfl, hs2, hm2, hr2, z2⟩ := open_ops g2
      clear g0 g1 g2 hg
      refine ⟨⟨s0, A1, p1, lists s1, A2, p2, l2⟩, by simp [Ptm.cells, lists_len], ?_, fun h => ?_⟩
      · exact ⟨by rw [toBs_lists]; exact hs1, by rw [lists_len]; exact hr1, hs2, hr2⟩
      · rw [hx] at h
        have u := Tryz.underlying35
        exact ⟨z0 (weigh_field u 0 rfl rfl h), by rw [lists_len]; exact hm1, hm2, z2 (weigh_field u 2 rfl rfl h)⟩
end Go.Proofs.YtifkpelcdihdoaaGreatDoor
namespace Go.Proofs.YtifkpelcdihdoaaGreatDoor
open Go.RowKit
set_option linter.unusedVariables false

/-- Patches as records of three cells. -/
def patR : Rk Ptm where
  ty := 35
  tys := 22
  k := 3
  bytes := 64
  zero := .agg #[.string ByteArray.empty, .slice none 0 0, .slice none 0 0]
  enc := Ptm.cells
  len := fun _ => rfl
  one := fun x u hu => by
    simp only [Ptm.cells, List.mem_cons, List.not_mem_nil, or_false] at hu
    rcases hu with rfl | rfl | rfl <;> rfl
  pos := by decide
  small := by decide
  zsz := rfl
  info := by kernel_rfl
  und := Tryz.underlying22
def pkeys (l : List Ptm) : List PatK := l.map Ptm.key
theorem pkeys_len (l : List Ptm) : (pkeys l).length = l.length := by simp [pkeys]
theorem pkeys_take (l : List Ptm) (k : Nat) : pkeys (l.take k) = (pkeys l).take k := by simp [pkeys, List.map_take]
theorem pkeys_get (l : List Ptm) (k : Nat) (h : k < l.length) : (pkeys l)[k]'(by rw [pkeys_len]; exact h) = l[k].key := by simp [pkeys]
/-- Patches lie at A, their rows with them. -/
def Pats (w : World) (B : Nat) (A : Option Addr) (l : List Ptm) : Prop := patR.Row w B A l ∧ ∀ x ∈ l, x.Ok w B
theorem Pats.on {w w' : World} {A : Option Addr} {l : List Ptm} (h : Pats w w.heap.size A l) (hb : Below w.heap.size w w') : Pats w' w'.heap.size A l := ⟨h.1.on hb, fun x hx => (h.2 x hx).on hb⟩
end Go.Proofs.YtifkpelcdihdoaaGreatDoor
namespace Go.Proofs.YtifkpelcdihdoaaGreatDoor
open Go.RowKit
set_option linter.unusedVariables false

/-- A patch that is not far too great. -/
structure Ptm.Lt (x : Ptm) : Prop where
  name : x.name.size ≤ 100
  few : x.deps.length ≤ 60
  many : x.ops.length ≤ 30
  deps : ∀ d ∈ x.deps, d.length ≤ 100
  ops : ∀ o ∈ x.ops, o.Lt
def LightPL (x : Ptm) (w : World) (e : Ending) (w' : World) : Prop := ∃ r : Bool, e = .returned (.bool r) ∧ Hid (r = true → x.Lt) ∧ Below w.heap.size w w'
set_option maxHeartbeats 8000000 in
set_option maxRecDepth 100000 in
theorem light13_any (x : Ptm) (w : World) (ox : x.Ok w w.heap.size) (ix : x.In) : Calls Tryz.prog 18 #[x.val] w (LightPL x w) := by
  obtain ⟨hb, hx⟩ := pat_box w x
  have HX := Lib.hid hx
  have HF := Lib.hid hb
  have OX := Lib.hid (ox.on hb)
  have IX := Lib.hid ix
  have j1 := ix.few
  have j2 := ix.name
  have j3 := ix.many
  clear hb hx ox ix
  unfold Ptm.val Ptm.cells
  go_enter Tryz.func18, Tryz.ntmps18
  go_upto_region 1 with (fail)
  generalize (w.alloc (.cells #[.string x.name, .slice x.a1 x.deps.length x.c1, .slice x.a2 x.ops.length x.c2] 35)) = wb at *
  generalize (Value.agg #[.string x.name, .slice x.a1 x.deps.length x.c1, .slice x.a2 x.ops.length x.c2]) = vx
  have a0 := HX.out.c0
  have a1 := HX.out.c1
  have a2 := HX.out.c2
  have HNO : Hid (LightPL x w (.returned (.bool false)) wb) := ⟨false, rfl, (fun h => by cases h), HF.out⟩
  by_cases k1 : x.deps.length ≤ 60
  · have q1 : ¬ (x.deps.length : Int) > 60 := by omega
    by_cases k2 : x.name.size ≤ 100
    · have q2 : ¬ (x.name.size : Int) > 100 := by omega
      by_cases k3 : x.ops.length ≤ 30
      · have q3 : ¬ (x.ops.length : Int) > 30 := by omega
        have HG0 : Hid (Below wb.heap.size wb wb) := Below.refl _ _
        clear HNO
        go_wp2
        go_loopw [3] (fun iv wr => ∃ k : Nat, k ≤ x.deps.length ∧ iv = .int .i64 (k : Int) ∧ Hid (∀ t (ht : t < x.deps.length), t < k → x.deps[t].length ≤ 100) ∧ Hid (Below wb.heap.size wb wr)) (fun iv _ => x.deps.length - (intOf iv).toNat)
        case atStart => exact ⟨0, Nat.zero_le _, rfl, fun t _ h => absurd h (by omega), HG0.out⟩
        case round =>
          clear HG0 a0 a1 a2
          obtain ⟨k, hk, rfl, HALL, HG⟩ := hrel
          have a1 := (HX.out.on HG.out).c1
          by_cases hlt : k < x.deps.length
          · have hS := (OX.out.on HG.out).deps
            obtain ⟨b, off, eA, hbB, hcs⟩ := hS.at_ (k := k) (by rw [toBs_len]; exact hlt)
            have hcell : wr.cell? ⟨b, off + k, none⟩ = some (.string (toB x.deps[k])) := by rw [hcs]; congr 2; simp [toBs]
            obtain ⟨d, hd⟩ : ∃ d, x.deps[k] = d := ⟨_, rfl⟩
            have HD := Lib.hid hd
            rw [hd] at hcell
            obtain ⟨s, hs⟩ : ∃ s, toB d = s := ⟨_, rfl⟩
            have hsz : s.size = d.length := by rw [← hs, toB_size]
            have HSZ := Lib.hid hsz
            rw [hs] at hcell
            rw [eA] at a1
            have u0 : (0 : Int) ≤ (k : Int) := by omega
            have u1 : (k : Int) < (x.deps.length : Int) := by omega
            clear hS eA hbB hcs hd hs hsz
            by_cases k4 : s.size ≤ 100
            · have q4 : ¬ (s.size : Int) > 100 := by omega
              have HALL2 : Hid (∀ t (ht : t < x.deps.length), t < k + 1 → x.deps[t].length ≤ 100) := fun t ht htk => by
                by_cases e : t = k
                · subst e
                  rw [HD.out, ← HSZ.out]
                  exact k4
                · exact HALL.out t ht (by omega)
              clear HALL
              go_wp2
              go_roundw
              case rel => exact ⟨k + 1, by omega, by go_num, HALL2.out, HG.out⟩
              case measure => simp [intOf]; omega
            · have q4 : (s.size : Int) > 100 := by omega
              have HNO : Hid (LightPL x w (.returned (.bool false)) wr) := ⟨false, rfl, (fun h => by cases h), HF.out.trans (HG.out.mono HF.out.size)⟩
              clear HALL
              go_wp2
              go_ret
              exact HNO.out
          · have a2 := (HX.out.on HG.out).c2
            have CL := Lib.hid (light12_any x.a2 x.ops x.c2 wr (OX.out.on HG.out).ops IX.out.ops (by omega))
            have HDL : Hid (∀ d ∈ x.deps, d.length ≤ 100) := fun d hd => by
              obtain ⟨j, hj, rfl⟩ := List.getElem_of_mem hd
              exact HALL.out j hj (by omega)
            clear HALL
            go_wp2_with fail
            refine CL.out.mono ?_
            rintro e w2 ⟨r, rfl, hl, hb2⟩
            have HFN : Hid (LightPL x w (.returned (.bool r)) w2) := ⟨r, rfl, fun h => ⟨k2, k1, k3, HDL.out, hl.out h⟩, HF.out.trans ((HG.out.trans (hb2.mono HG.out.size)).mono HF.out.size)⟩
            clear hl hb2 CL HG
            go_wp2
            go_ret
            exact HFN.out
      · have q3 : (x.ops.length : Int) > 30 := by omega
        go_wp2
        go_ret
        exact HNO.out
    · have q2 : (x.name.size : Int) > 100 := by omega
      go_wp2
      go_ret
      exact HNO.out
  · have q1 : (x.deps.length : Int) > 60 := by omega
    go_wp2
    go_ret
    exact HNO.out
end Go.Proofs.YtifkpelcdihdoaaGreatDoor
namespace Go.Proofs.YtifkpelcdihdoaaGreatDoor
open Go.RowKit
set_option linter.unusedVariables false

/-- A call hands back ids, that it made. -/
def IdsLeft (w : World) (ks : List Ik) (e : Ending) (w' : World) : Prop := ∃ (A : Option Addr) (n c : Nat) (l : List Im), e = .returned (.slice A n c) ∧ ikeys l = ks ∧ OwnId w' w.heap.size (.slice A n c) l ∧ Below w.heap.size w w'
end Go.Proofs.YtifkpelcdihdoaaGreatDoor
namespace Go.Proofs.YtifkpelcdihdoaaGreatDoor
open Go.RowKit
set_option linter.unusedVariables false

set_option maxHeartbeats 2000000 in
set_option maxRecDepth 100000 in
theorem refisame_any (A A2 : Option Addr) (l m : List Im) (cap cap2 : Nat) (w : World) (hs : Ids w w.heap.size A l) (ht : Ids w w.heap.size A2 m) (hn : l.length ≤ 1000000) (hn2 : m.length ≤ 1000000) :
    Calls Tryz.prog 76 #[.slice A l.length cap, .slice A2 m.length cap2] w fun e w' => e = .returned (.bool (decide (l = m))) ∧ Below w.heap.size w w' := by
  by_cases hl : l.length = m.length
  · have Hl := Lib.hid hl
    have hb1 : (((l.length : Int)) != (m.length : Int)) = false := by simp; omega
    have HS := Lib.hid hs
    have HM := Lib.hid ht
    clear hl hs ht
    go_enter Tryz.func76, Tryz.ntmps76
    go_wp2
    go_loopw [5] (fun i wr => ∃ k : Nat, k ≤ l.length ∧ i = .int .i64 (k : Int) ∧ Hid (∀ j (hj : j < l.length) (hj2 : j < m.length), j < k → l[j] = m[j]) ∧ Hid (Below w.heap.size w wr)) (fun i _ => l.length - (intOf i).toNat)
    case atStart => exact ⟨0, Nat.zero_le _, rfl, fun j _ _ h => absurd h (by omega), Below.refl _ _⟩
    case round =>
      obtain ⟨k, hk, rfl, hall, hbr⟩ := hrel
      by_cases hlt : k < l.length
      · have hlt2 : k < m.length := by have := Hl.out; omega
        obtain ⟨g, off, rfl, _, c0, c1⟩ := ids_get (HS.out.on hbr.out) hlt
        obtain ⟨g2, off2, rfl, _, d0, d1⟩ := ids_get (HM.out.on hbr.out) hlt2
        have hq : ∀ q, Hid (Below w.heap.size w (wr.drewN q)) := fun q => below_drewN hbr.out q
        have EQ := fun W => neq_id l[k] m[k] W
        by_cases he : l[k] = m[k]
        · rw [decide_eq_true he, Bool.not_true] at EQ
          have hnew : Hid (∀ j (hj : j < l.length) (hj2 : j < m.length), j < k + 1 → l[j] = m[j]) := fun j hj hj2 hjk => by
            by_cases h : j = k
            · subst h; exact he
            · exact hall.out j hj hj2 (by omega)
          generalize l[k] = y at *
          generalize m[k] = z at *
          clear hall hbr he
          go_wp2
          go_quiet (fail)
          go_wp2
          go_roundw
          case rel => exact ⟨k + 1, by omega, by go_num, hnew, hq _⟩
          case measure => simp [intOf]; omega
        · rw [decide_eq_false he, Bool.not_false] at EQ
          have hno : Hid (decide (l = m) = false) := decide_eq_false fun h => by subst h; exact he rfl
          generalize l[k] = y at *
          generalize m[k] = z at *
          clear hall hbr he
          go_wp2
          go_quiet (fail)
          go_wp2
          go_ret
          rw [hno.out]
          exact ⟨rfl, (hq _).out⟩
      · obtain rfl : k = l.length := by omega
        have hyes : Hid (decide (l = m) = true) := decide_eq_true (List.ext_getElem Hl.out fun j h1 h2 => hall.out j h1 h2 h1)
        clear hall
        go_wp2
        go_ret
        rw [hyes.out]
        exact ⟨rfl, hbr.out⟩
  · have hno : Hid (decide (l = m) = false) := decide_eq_false fun h => hl (by rw [h])
    have hb1 : (((l.length : Int)) != (m.length : Int)) = true := by simp; omega
    have HB : Hid (Below w.heap.size w w) := Below.refl _ _
    clear hs ht hl
    go_enter Tryz.func76, Tryz.ntmps76
    go_wp2
    go_ret
    rw [hno.out]
    exact ⟨rfl, HB.out⟩
end Go.Proofs.YtifkpelcdihdoaaGreatDoor
namespace Go.Proofs.YtifkpelcdihdoaaGreatDoor
open Go.RowKit
set_option linter.unusedVariables false

namespace Rk
variable {α : Type}
theorem cells_rep (R : Rk α) (z : α) (n i : Nat) (hi : i < n * R.k) : (R.cells (List.replicate n z))[i]? = (R.enc z)[i % R.k]? := by
  obtain ⟨j, r, hj, hr, rfl⟩ := R.at_place (List.replicate n z) (by simpa using hi)
  rw [R.cells_get _ j hj r hr, List.getElem_replicate, Nat.add_comm, Nat.add_mul_mod_self_right, Nat.mod_eq_of_lt hr]
theorem make_ (R : Rk α) (z : α) (hz : R.zero.cells.toList = R.enc z) (W : World) (n : Nat) (hn : n ≤ 100000) :
    ∃ cs, (Instr.makeSlice R.tys (.int .i64 (n : Int)) (.int .i64 (n : Int))).run Tryz.prog W = .ok (.slice (some ⟨W.heap.size, 0, none⟩) n n) (W.alloc (.cells cs R.ty)) ∧ R.Blk (W.alloc (.cells cs R.ty)) W.heap.size n (List.replicate n z) := by
  obtain ⟨i0, hi, hz0, hz1, hz2⟩ := R.info_of
  have hb := R.small
  have hr := run_make (P := Tryz.prog) W R.tys R.ty i0 _ R.und hi hz0 .i64 .i64 n n (by omega) (Int.le_refl _) (by rw [hz2]; exact Int.le_trans (Int.mul_le_mul (by omega) (Int.le_refl _) (by omega) (by omega)) (show (1000 : Int) * (n : Int) ≤ _ by omega)) (by omega)
  simp only [Int.toNat_natCast] at hr
  rw [hz1] at hr
  refine ⟨_, hr, ⟨⟨_, heap_alloc_new W _, ?_, ?_⟩, by simp, by unfold maxLen; omega⟩⟩
  · rw [size_madeCells]
  · rw [List.length_replicate]
    refine List.ext_getElem? fun i => ?_
    by_cases h : i < n * R.k
    · rw [List.getElem?_take, if_pos h, Array.getElem?_toList, R.cells_rep z n i h, ← hz]
      have hm : i % R.k < R.zero.cells.size := by rw [R.zsz]; exact Nat.mod_lt _ R.pos
      unfold madeCells
      rw [Array.getElem?_map, Array.getElem?_range, if_pos h, Option.map_some, R.zsz, getElem!_pos R.zero.cells (i % R.k) hm, Array.getElem?_toList, Array.getElem?_eq_getElem hm]
    · rw [List.getElem?_take, if_neg h, List.getElem?_eq_none (by rw [R.cells_len]; simpa using h)]
end Rk
end Go.Proofs.YtifkpelcdihdoaaGreatDoor
