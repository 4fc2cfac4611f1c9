/- Package deps: patches in a map by their names; Names. -/
import Derived.Test.YtifkpelcdihdoaaGreatDoorProg
import Derived.WalkKit
import Derived.WalkSpells
import Derived.Handy
import Derived.Lib.Hide
import Derived.Shelf.Strings.BuilderK
import Derived.BigQuiet
import Derived.Deep.QuietTactic
import Derived.Lib.AtoiAllCases
import Derived.Lib.ItoaMem
import Derived.Test.YtifkpelcdihdoaaGreatDoorShelf
import Derived.Deep.RegionHeld3
import Derived.Deep.CutRange
import Derived.Lib.AppendIntMem
import Derived.BigRegion
import Derived.Deep.RegionWith
import Derived.Lib.QuietBelow
import Derived.Deep.MidRow
import Derived.Test.YtifkpelcdihdoaaGreatDoorCk18
namespace Go.Proofs.YtifkpelcdihdoaaGreatDoor
open Go.RowKit
set_option linter.unusedVariables false

/-- Patches by their names, of those of one name the last one, as what a map has. -/
def mapP (l : List Ptm) : ByteArray → Option Value := l.foldl (fun f x t => if t = x.name then some x.val else f t) (fun _ => none)
theorem mapP_snoc (l : List Ptm) (x : Ptm) : mapP (l ++ [x]) = fun t => if t = x.name then some x.val else mapP l t := by
  unfold mapP
  rw [List.foldl_append]
  rfl
theorem mapP_some_from (l : List Ptm) : ∀ (f : ByteArray → Option Value) (s : ByteArray), ((l.foldl (fun f x t => if t = x.name then some x.val else f t) f) s).isSome = ((f s).isSome || decide (s.data.toList ∈ namesD (pkeys l))) := by
  induction l with
  | nil => intro f s; simp [namesD, pkeys]
  | cons x l ih =>
    intro f s
    rw [List.foldl_cons, ih]
    have e1 : namesD (pkeys (x :: l)) = x.name.data.toList :: namesD (pkeys l) := rfl
    rw [e1]
    by_cases e : s = x.name
    · subst e
      simp
    · have e2 : s.data.toList ≠ x.name.data.toList := fun h => e (bytes_inj h)
      simp [e, e2]
theorem mapP_some (l : List Ptm) (s : ByteArray) : (mapP l s).isSome = decide (s.data.toList ∈ namesD (pkeys l)) := by
  unfold mapP
  rw [mapP_some_from]
  simp
theorem pat_range {w : World} {g : Nat} {x : Ptm} (h : PatAt w g x) : w.rangeAt g 0 x.cells := fun j v hv => by
  match j, hv with
  | 0, hv => cases hv; exact h.c0
  | 1, hv => cases hv; exact h.c1
  | 2, hv => cases hv; exact h.c2
/-- A whole patch stored into a row's middle. -/
theorem wpList_store_patr {ops : Array Oper} {rest : List Oper} {op : Oper} {a : Act} {w : World} {Q : Exit → Act → World → Prop} (hgd : op.guard = none) (x y : Operand) (ho : op.op = .store 35 x y) (g o : Nat) (z : Ptm)
    (hx : a.eval x = .pointer (some ⟨g, o, none⟩)) (hy : a.eval y = .agg #[.string z.name, .slice z.a1 z.deps.length z.c1, .slice z.a2 z.ops.length z.c2]) (hz : w.there g o 3) (h : wpList Tryz.prog ops Q rest (a.put op.dst undef) (w.setCells g o z.cells)) : wpList Tryz.prog ops Q (op :: rest) a w :=
  wpList_store_mid hgd 35 x y ho g o z.cells.toArray hx hy hz sized_pat3 (all_oneCell_toArray (patR.one z)) h
set_option maxHeartbeats 4000000 in
set_option maxRecDepth 100000 in
theorem byname_any (A : Option Addr) (l : List Ptm) (c : Nat) (w : World) (hs : Pats w w.heap.size A l) (hn : l.length ≤ 100000) (hz : ∀ x ∈ l, x.name.size ≤ 9223372036854775807) :
    Calls Tryz.prog 42 #[.slice A l.length c] w fun e w' => ∃ b, e = .returned (.map (some b)) ∧ StrMap w' b l.length (mapP l) ∧ Below w.heap.size w w' := by
  have HS := Lib.hid hs
  have HZ := Lib.hid hz
  have q1 : ∀ (W : World), (Instr.makeMap 67 (some (.int .i64 (l.length : Int)))).run Tryz.prog W = .ok (.map (some W.heap.size)) (W.alloc (.map #[] 0)) := fun W => mk_map Tryz.underlying67 _ W
  have HM0 : Hid (StrMap (w.alloc (.map #[] 0)) w.heap.size 0 (mapP (l.take 0))) := StrMap.made w
  have HB0 : Hid (Below w.heap.size w (w.alloc (.map #[] 0))) := (Below.refl _ _).alloc (Nat.le_refl _) _
  clear hs hz
  go_enter Tryz.func42, Tryz.ntmps42
  go_upto_region 2 with (fail)
  generalize (w.alloc (.map #[] 0)) = w2 at *
  go_wp2_with fail
  go_loopw [11] (fun i wr => ∃ k : Nat, k ≤ l.length ∧ i = .int .i64 (k : Int) ∧ Hid (StrMap wr w.heap.size k (mapP (l.take k))) ∧ Hid (Below w.heap.size w wr)) (fun i _ => l.length - (intOf i).toNat)
  case atStart => exact ⟨0, Nat.zero_le _, rfl, HM0.out, HB0.out⟩
  case round =>
    clear HM0 HB0
    obtain ⟨k, hk, rfl, HM, HB⟩ := hrel
    by_cases hlt : k < l.length
    · obtain ⟨b, off, rfl, hbB, hcx⟩ := (HS.out.on HB.out).1.get hlt
      have HST : Hid (mapP (l.take (k + 1)) = fun t => if t = l[k].name then some l[k].val else mapP (l.take k) t) := by
        show _ = _
        rw [List.take_succ_eq_append_getElem hlt, mapP_snoc]
      have hz : l[k].name.size ≤ 9223372036854775807 := HZ.out _ (List.getElem_mem hlt)
      have u0 : (0 : Int) ≤ (k : Int) := by omega
      have u1 : (k : Int) < (l.length : Int) := by omega
      have IA := pat_indexAt (c := c) (A := some ⟨b, off, none⟩) rfl hlt
      generalize l[k] = x at *
      have RX := Lib.hid (pat_rng hcx)
      obtain ⟨hbx, hX⟩ := pat_box wr x
      have HX := Lib.hid hX
      have HM1 := Lib.hid (HM.out.on hbx)
      have HB1 := Lib.hid (HB.out.trans (hbx.mono HB.out.size))
      clear hcx hbB hbx hX HM HB
      -- @P1
      go_upto_region 5 with ((with_reducible refine wpList_load_patw (.tmp 13) b (off + k * 3) x RX.out ?_ ?_ ?_ ?_); rfl; rfl; rfl; simp only [Act.put, List.setIfInBounds_toArray, List.set_cons_zero, List.set_cons_succ])
      generalize (wr.alloc (.cells #[.string x.name, .slice x.a1 x.deps.length x.c1, .slice x.a2 x.ops.length x.c2] 35)) = wa at *
      generalize wr.heap.size = gx at *
      have p0 := HX.out.c0
      have RB := Lib.hid (pat_range HX.out)
      clear RX IA
      -- @P2
      go_wp2_with (first | ((with_reducible refine wpList_load_patw (.tmp 5) gx 0 x RB.out ?_ ?_ ?_ ?_); rfl; rfl; rfl; simp only [Act.put, List.setIfInBounds_toArray, List.set_cons_zero, List.set_cons_succ]) | (at_mapUpdate; refine wpList_put_str _ _ Tryz.underlying67 rfl _ _ _ rfl w.heap.size k (mapP (l.take k)) x.name x.val rfl rfl rfl HM1.out hz (by omega) ?_))
      intro w3 hs3 hg3
      have HM3 : Hid (StrMap w3 w.heap.size (k + 1) (mapP (l.take (k + 1)))) := by
        show StrMap _ _ _ _
        rw [HST.out]
        exact hs3
      have HB3 : Hid (Below w.heap.size w w3) := HB1.out.grown hg3 HB1.out.size (fun q hq => by simp only [Option.some.injEq] at hq; omega)
      clear hs3 hg3 HM1 HB1 p0 RB HX hz HST
      go_wp2
      go_roundw
      case rel => exact ⟨k + 1, by omega, by go_num, HM3.out, HB3.out⟩
      case measure => simp [intOf]; omega
    · obtain rfl : k = l.length := by omega
      have HF : Hid (StrMap wr w.heap.size l.length (mapP l)) := by have h := HM.out; rwa [List.take_length] at h
      clear HM
      go_wp2
      go_ret
      exact ⟨_, rfl, HF.out, HB.out⟩
set_option maxRecDepth 100000 in
theorem names_any_d (A : Option Addr) (l : List Ptm) (c : Nat) (w : World) (hs : Pats w w.heap.size A l) (hn : l.length ≤ 100000) (hz : ∀ x ∈ l, x.name.size ≤ 9223372036854775807) :
    Calls Tryz.prog 23 #[.slice A l.length c] w (RowLeft w (setS (namesD (pkeys l)))) := by
  have C := Lib.hid (byname_any A l c w hs hn hz)
  clear hs hz
  go_enter Tryz.func23, Tryz.ntmps23
  go_wp2_with fail
  refine C.out.mono ?_
  rintro e w1 ⟨b, rfl, hm, hb⟩
  have C2 := Lib.hid (keysp_any b l.length (namesD (pkeys l)) w1 ⟨_, hm, mapP_some l⟩ hn)
  have HB := Lib.hid hb
  clear hm hb C
  go_wp2_with fail
  refine C2.out.mono ?_
  rintro e w2 ⟨A2, c2, rfl, hA2, hs2, hb2⟩
  have HF : Hid (RowLeft w (setS (namesD (pkeys l))) (.returned (.slice A2 (setS (namesD (pkeys l))).length c2)) w2) := ⟨A2, c2, rfl, hA2, hs2, HB.out.trans (hb2.mono HB.out.size)⟩
  clear hs2 hb2 hA2 HB C2
  go_wp2
  go_ret
  exact HF.out
end Go.Proofs.YtifkpelcdihdoaaGreatDoor
