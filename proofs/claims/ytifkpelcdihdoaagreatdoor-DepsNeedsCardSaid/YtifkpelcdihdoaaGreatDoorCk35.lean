/- A range over slices.Backward of a row of patches, its places told. Package deps: Ordered of the statements' two patches. -/
import Derived.Test.YtifkpelcdihdoaaGreatDoorProg
import Derived.WalkKit
import Derived.WalkSpells
import Derived.Handy
import Derived.Lib.Hide
import Derived.Shelf.Strings.BuilderK
import Derived.BigQuiet
import Derived.Deep.QuietTactic
import Derived.Lib.AtoiAllCases
import Derived.Lib.ItoaMem
import Derived.Test.YtifkpelcdihdoaaGreatDoorShelf
import Derived.Deep.RegionHeld3
import Derived.Deep.CutRange
import Derived.Lib.AppendIntMem
import Derived.BigRegion
import Derived.Deep.RegionWith
import Derived.Lib.QuietBelow
import Derived.Deep.MidRow
import Derived.RangeFuncNested
import Derived.RangeFuncBox
import Derived.RangeFuncLeaves
import Derived.Shelf.Abstract
import Derived.OwnWalkIn
import Derived.TacticsInMore
import Derived.LoopNIn
import Derived.LoopIn
import Derived.Maps.AppendAt
import Derived.Test.YtifkpelcdihdoaaGreatDoorCk27
namespace Go.Proofs.YtifkpelcdihdoaaGreatDoor
open Go.RowKit Go.Shelf
set_option linter.unusedVariables false
set_option pp.maxSteps 600

attribute [local go_sem] Oper.semAt_some

/-- What a round keeps: what lay below n₀, and block b. -/
def KpB (n₀ b : Nat) (W W' : World) : Prop := Below n₀ W W' ∧ (b < W.heap.size → W'.heap[b]? = W.heap[b]?)
theorem KpB.trans {n₀ b : Nat} {X Y Z : World} (h : KpB n₀ b X Y) (k : KpB n₀ b Y Z) : KpB n₀ b X Z :=
  ⟨h.1.trans k.1, fun hb => (k.2 (by
    rcases Nat.lt_or_ge b Y.heap.size with h1 | h1
    · exact h1
    · have h2 := h.2 hb
      rw [Array.getElem?_eq_none h1, Array.getElem?_eq_getElem hb] at h2
      cases h2)).trans (h.2 hb)⟩
theorem kpB_put {n₀ b : Nat} {w : World} (hn : n₀ ≤ w.heap.size) (hb : b < w.heap.size) (W : World) (l : Nat) (o o' : Obj) (hl : w.heap.size ≤ l) (h : W.heap[l]? = some o) (h1 : o.isCells = false) (h2 : o.isWalk = false) : KpB n₀ b W (W.putObj l o') :=
  ⟨belowK_b hn W l o o' hl h h1 h2, fun hlt => (grownBy_putObj' W l o').block b hlt (fun e => by cases e; omega)⟩
theorem KpB.refl (n₀ b : Nat) (W : World) : KpB n₀ b W W := ⟨Below.refl _ _, fun _ => rfl⟩

/-- What comes to a round: a place of the row. -/
abbrev CameT (ps : List Ptm) := { i : Nat // i < ps.length }
def CameT.cells {ps : List Ptm} (x : CameT ps) : Array Value := #[.int .i64 (x.1 : Int), (ps[x.1]'x.2).val]

set_option maxRecDepth 100000 in
set_option maxHeartbeats 4000000 in
theorem tbackward1_in (F : Fence) (n : Nat) (hf : F.fn 70) (hro : F.round = none) (hn : 1 ≤ n) (l n₀ Bs cap : Nat) (A : Option Addr) (ps : List Ptm) (hlen : ps.length ≤ 100000) (J Jx : List (CameT ps) → World → Prop)
    (hY : ∀ pre x W, J pre W → pre.length < ps.length → YieldAt F (n - 1) Tryz.prog l x.cells W fun e W' =>
      (e = .returned (.bool true) ∧ J (pre ++ [x]) W' ∧ KpB n₀ Bs W W') ∨ (e = .returned (.bool false) ∧ Jx (pre ++ [x]) W'))
    (W : World) (hb : Boxed W Bs 22 (.slice A ps.length cap)) (hs : patR.Row W n₀ A ps) (h0 : J [] W) :
    CallsIn F n Tryz.prog 70 #[.func (.yield l) #[] #[], .pointer (some ⟨Bs, 0, none⟩)] W fun e W' => (∃ v, e = .returned v) ∧
      ((∃ ys, (ys.map fun x => x.1) = ((List.range ps.length).drop 0).reverse ∧ J ys W') ∨ (∃ pre, (∃ k, k ≤ ps.length ∧ (pre.map fun x => x.1) = ((List.range ps.length).drop k).reverse) ∧ Jx pre W')) := by
  have hc := hb.cell
  refine callsIn_of_wp Tryz.func70 rfl hf ?_ hro
  simp only [Tryz.ntmps70, List.size_toArray, List.length_cons, List.length_nil, Nat.reduceAdd, Nat.reduceSub, Array.replicate_succ, Array.replicate_zero, List.push_toArray, List.append_toArray, List.nil_append, List.cons_append]
  gi_wp2
  gi_loopw [3] (fun i wr => ∃ (k : Nat) (pre : List (CameT ps)), k ≤ ps.length ∧ i = .int .i64 ((k : Int) - 1) ∧ Hid ((pre.map fun x => x.1) = ((List.range ps.length).drop k).reverse ∧ pre.length = ps.length - k) ∧ J pre wr ∧ Hid (KpB n₀ Bs W wr))
    (fun i _ => (intOf i + 1).toNat)
  case atStart => exact ⟨ps.length, [], Nat.le_refl _, rfl, ⟨by simp, by simp⟩, h0, KpB.refl _ _ _⟩
  case round =>
    obtain ⟨k, pre, hk, rfl, hpre, hJ, hkp⟩ := hrel
    have hbx : Boxed wr Bs 22 (.slice A ps.length cap) := (hkp.out.2 hb.lt).trans hb
    have hcx := hbx.cell
    cases k with
    | zero =>
      gi_wp2
      go_end0
      refine ⟨⟨_, rfl⟩, .inl ⟨pre, ?_, hJ⟩⟩
      exact hpre.out.1
    | succ k =>
      have hlt : k < ps.length := by omega
      obtain ⟨b, off, e, bl, hct⟩ := (hs.below hkp.out.1).get hlt
      subst e
      have d0 : wr.cell? ⟨b, off + k * 3, none⟩ = some (.string ps[k].name) := hct 0 _ rfl
      have d1 : wr.cell? ⟨b, off + k * 3 + 1, none⟩ = some (.slice ps[k].a1 ps[k].deps.length ps[k].c1) := hct 1 _ rfl
      have d2 : wr.cell? ⟨b, off + k * 3 + 2, none⟩ = some (.slice ps[k].a2 ps[k].ops.length ps[k].c2) := hct 2 _ rfl
      clear hct
      obtain ⟨fn, tmps, assign, body, hy, hR⟩ := hY pre ⟨k, hlt⟩ wr hJ (by rw [hpre.out.2]; omega)
      have hnew : Hid (((pre ++ [(⟨k, hlt⟩ : CameT ps)]).map fun x => x.1) = ((List.range ps.length).drop k).reverse ∧ (pre ++ [(⟨k, hlt⟩ : CameT ps)]).length = ps.length - k) := by
        refine ⟨?_, by rw [List.length_append, hpre.out.2]; simp; omega⟩
        rw [List.map_append, hpre.out.1, List.drop_eq_getElem_cons (i := k) (show k < (List.range ps.length).length by simpa using hlt), List.reverse_cons]
        simp
      unfold CameT.cells Ptm.val Ptm.cells at hy
      dsimp only at hy
      have z0 : ((k + 1 : Nat) : Int) - 1 = (k : Int) := by omega
      have z1 : (0 : Int) ≤ (k : Int) := by omega
      have z2 : (k : Int) < (ps.length : Int) := by omega
      rw [z0]
      gi_wp2
      refine hR.mono ?_
      rintro e W3 (⟨rfl, hJ3, hk3⟩ | ⟨rfl, hJx3⟩)
      · gi_wp2
        go_roundw
        case rel => exact ⟨k, _, by omega, by go_num, hnew, hJ3, hkp.out.trans hk3⟩
        case measure => simp [intOf]
      · gi_wp2
        refine bodyPost_ret (results_none rfl _ _ _) rfl ?_
        exact ⟨⟨_, rfl⟩, .inr ⟨_, ⟨k, by omega, hnew.out.1⟩, hJx3⟩⟩

set_option maxRecDepth 100000 in
set_option maxHeartbeats 1000000 in
theorem tbackward_in (F : Fence) (n : Nat) (hf : F.fn 45) (hro : F.round = none) (A : Option Addr) (len cap : Nat) (w : World) :
    CallsIn F n Tryz.prog 45 #[.slice A len cap] w fun e w' => e = .returned (.func (.func 70) #[] #[.pointer (some ⟨w.heap.size, 0, none⟩)]) ∧ w' = w.alloc (.cells #[.slice A len cap] 22) := by
  refine callsIn_of_wp Tryz.func45 rfl hf ?_ hro
  simp only [Tryz.ntmps45, List.size_toArray, List.length_cons, List.length_nil, Nat.reduceAdd, Nat.reduceSub, Array.replicate_succ, Array.replicate_zero, List.push_toArray, List.append_toArray, List.nil_append, List.cons_append]
  gi_wp2
  go_ret
  exact ⟨rfl, rfl⟩
theorem tbackward_stops (F : Fence) (n : Nat) (hf : F.fn 70) (hro : F.round = none) (hn : 1 ≤ n) (n₀ Bs cap : Nat) (A : Option Addr) (ps : List Ptm) (hlen : ps.length ≤ 100000) (w : World) (hn₀ : n₀ ≤ w.heap.size) (hb : Boxed w Bs 22 (.slice A ps.length cap)) (hs : patR.Row w n₀ A ps) :
    SeqStopsK F n Tryz.prog 70 #[.pointer (some ⟨Bs, 0, none⟩)] (CameT.cells (ps := ps)) (KpB n₀ Bs) (fun ys => (ys.map fun x => x.1) = ((List.range ps.length).drop 0).reverse) (fun pre => ∃ k, k ≤ ps.length ∧ (pre.map fun x => x.1) = ((List.range ps.length).drop k).reverse) ps.length w := fun l J Jx W hW _ _ hY h0 =>
  tbackward1_in F n hf hro hn l n₀ Bs cap A ps hlen J Jx hY W ((hW.block Bs hb.lt).trans hb) (hs.below (hW.mono hn₀)) h0

end Go.Proofs.YtifkpelcdihdoaaGreatDoor
namespace Go.Proofs.YtifkpelcdihdoaaGreatDoor
open Go.RowKit Go.Shelf
set_option linter.unusedVariables false
set_option pp.maxSteps 1500

attribute [local go_sem] Oper.semAt_some

/-- The names of the places of the two; what they hang on. -/
def nmO (i : Nat) : List UInt8 := if i = 0 then [98] else [97]
def dpO (i : Nat) : List (List UInt8) := if i = 0 then [[97]] else []
/-- So far nobody hung on who was seen. -/
def FineO (is : List Nat) : Prop := ∀ p i q, is = p ++ i :: q → ((dpO i).any fun n => decide (n ∈ (p ++ [i]).map nmO)) = false
theorem fine_nil : FineO [] := fun p i q h => by simp at h
theorem fine_snoc {is : List Nat} {i : Nat} (h : FineO is) (hi : ((dpO i).any fun n => decide (n ∈ (is ++ [i]).map nmO)) = false) : FineO (is ++ [i]) := fun p j q e => by
  rcases List.eq_nil_or_concat q with rfl | ⟨q2, z, rfl⟩
  · obtain ⟨rfl, e2⟩ := List.append_inj' e rfl
    simp only [List.cons.injEq, and_true] at e2
    subst e2
    exact hi
  · rw [List.concat_eq_append, ← List.cons_append, ← List.append_assoc] at e
    obtain ⟨rfl, _⟩ := List.append_inj' e rfl
    exact h p j q2 rfl
theorem fine_not : ¬ FineO [1, 0] := fun h => by
  have := h [1] 0 [] rfl
  revert this
  decide
/-- What the loop keeps. -/
structure OrdI (w W : World) (A : Option Addr) (cap : Nat) (is : List Nat) : Prop where
  c : Boxed W w.heap.size 4 (.bool false)
  mv : Boxed W (w.heap.size + 2) 46 (.map (some (w.heap.size + 1)))
  fv : Boxed W (w.heap.size + 3) 51 (.func (.func 44) #[] #[.pointer (some ⟨w.heap.size + 2, 0, none⟩)])
  s : Boxed W (w.heap.size + 4) 22 (.slice A 2 cap)
  m : SetM W (w.heap.size + 1) is.length (is.map nmO)
  b : Below w.heap.size w W
  f : FineO is
theorem OrdI.go {w X Y : World} {A : Option Addr} {cap : Nat} {is : List Nat} {row : Option Nat} (h : OrdI w X A cap is) (hg : X.grownBy Y row) (hr : ∀ r, row = some r → w.heap.size + 4 < r) : OrdI w Y A cap is := by
  have hne : ∀ k, k ≤ w.heap.size + 4 → some k ≠ row := fun k hk e => by
    have := hr k e.symm
    omega
  exact ⟨h.c.kept hg (hne _ (by omega)), h.mv.kept hg (hne _ (by omega)), h.fv.kept hg (hne _ (by omega)), h.s.kept hg (hne _ (by omega)), StrMap.grown h.m hg (fun e => hne _ (by omega) e.symm), h.b.grown hg h.b.size (fun q hq => by have := hr q hq; omega), h.f⟩
theorem ord_own (w : World) (A : Option Addr) (cap B : Nat) (hB : w.heap.size + 4 < B) {β : Type} (f : β → List Nat) : OwnFrom B (fun ys W => OrdI w W A cap (f ys)) :=
  fun ys X Y row h hg hr => h.go hg fun r e => by have := (hr r e).1; omega
theorem ordx_own (w : World) (B : Nat) (hB : w.heap.size + 4 < B) {β : Type} (P : Prop) : OwnFrom B (fun (_ : β) W => P ∧ Boxed W w.heap.size 4 (.bool false) ∧ Below w.heap.size w W) :=
  fun ys X Y row h hg hr => ⟨h.1, h.2.1.kept hg (fun e => by have := (hr _ e.symm).1; omega), h.2.2.grown hg h.2.2.size (fun q hq => by have := (hr q hq).1; omega)⟩
/-- A round of no hit. -/
theorem OrdI.round {w W w3 w5 : World} {A : Option Addr} {cap : Nat} {is : List Nat} {i : Nat} {s : ByteArray} (h : OrdI w W A cap is) (hs : s.data.toList = nmO i) (hm : StrMap w3 (w.heap.size + 1) (is.length + 1) (fun t => if t = s then some (.agg #[]) else setF (is.map nmO) t)) (hg : W.grownBy w3 (some (w.heap.size + 1))) (hb : Below w3.heap.size w3 w5) (hi : ((dpO i).any fun n => decide (n ∈ (is ++ [i]).map nmO)) = false) : OrdI w w5 A cap (is ++ [i]) := by
  have hne : ∀ k, k ≠ w.heap.size + 1 → some k ≠ some (w.heap.size + 1) := fun k hk e => hk (Option.some.inj e)
  have on : ∀ {k t v}, Boxed w3 k t v → Boxed w5 k t v := fun hx => (hb.block _ hx.lt).trans hx
  have hm2 : SetM w3 (w.heap.size + 1) (is ++ [i]).length ((is ++ [i]).map nmO) := by
    rw [List.length_append, List.map_append]
    rw [setF_put, hs] at hm
    exact hm
  have hb3 : Below w.heap.size w w3 := h.b.grown hg h.b.size (fun q hq => by simp only [Option.some.injEq] at hq; omega)
  exact ⟨on (h.c.kept hg (hne _ (by omega))), on (h.mv.kept hg (hne _ (by omega))), on (h.fv.kept hg (hne _ (by omega))), on (h.s.kept hg (hne _ (by omega))), StrMap.on hm2 hb, hb3.trans (hb.mono hb3.size), fine_snoc h.f hi⟩
theorem ret_var {fn : Func} {p : Tmp} (h : fn.results = #[.cell p 4]) (tmps : Array Value) (w : World) (g : Nat) (v : Value) (hp : tmps.getD p undef = .pointer (some ⟨g, 0, none⟩)) (k : w.cell? ⟨g, 0, none⟩ = some v) : (results fn tmps).run Tryz.prog w = .ok v w := by
  have l1 : (loadVar 4 ⟨g, 0, none⟩).run Tryz.prog w = .ok v w := by simp [loadVar, go_sem, k]
  have e : (results fn tmps).run Tryz.prog w = ((asAddr (tmps.getD p undef)).run Tryz.prog w).andThen fun a w₁ => (loadVar 4 a).run Tryz.prog w₁ := by
    simp only [results, h]
    simp [Sem.run_bind, Result.andThen]
  rw [e, hp]
  simp [asAddr, Result.andThen, l1]
theorem kpB_put1 {n₀ b : Nat} {X Y : World} {row : Option Nat} (hg : X.grownBy Y row) (hn : n₀ ≤ X.heap.size) (hr : ∀ r, row = some r → n₀ ≤ r ∧ r ≠ b) : KpB n₀ b X Y :=
  ⟨(Below.refl n₀ X).grown hg hn (fun q hq => (hr q hq).1), fun hb => hg.block b hb fun e => (hr b e.symm).2 rfl⟩
theorem kpB_on {n₀ b : Nat} {X Y : World} (h : Below X.heap.size X Y) (hn : n₀ ≤ X.heap.size) : KpB n₀ b X Y := ⟨h.mono hn, fun hb => h.block b hb⟩
theorem keeps_below {B : Nat} {X Y : World} (h : Below X.heap.size X Y) : KeepsFrom B X Y :=
  ⟨h.size, fun k o _ hk ho => (h.block k (Array.getElem?_eq_some_iff.1 hk).1).trans hk⟩

set_option maxRecDepth 100000 in
set_option maxHeartbeats 8000000 in
theorem dordered_any (A : Option Addr) (l : List Ptm) (cap : Nat) (w : World) (hd : DepIn w A l cap) (hk : pkeys l = [awB, awA]) :
    Calls Tryz.prog 21 #[.slice A l.length cap] w fun e w' => e = .returned (.bool false) ∧ Below w.heap.size w w' := by
  obtain ⟨x, y, rfl, hx, hy⟩ := aw_two hk
  have HW := Lib.hid (aw_of hx hy)
  have HD := Lib.hid hd
  have HN : Hid (∀ i (hi : i < [x, y].length), ([x, y][i]).name.data.toList = nmO i ∧ ([x, y][i]).deps = dpO i) := fun i hi => by
    match i, hi with
    | 0, _ => exact ⟨HW.out.xn, HW.out.xd⟩
    | 1, _ => exact ⟨HW.out.yn, HW.out.yd⟩
  clear hd hk hx hy
  refine (callsIn_wide (n := 6)).1 ?_
  have h1 : 1 ≤ 6 := by decide
  show CallsIn _ _ Tryz.prog 21 #[.slice A 2 cap] w _
  have qm : ∀ W : World, (Instr.makeMap 46 none).run Tryz.prog W = .ok (.map (some W.heap.size)) (W.alloc (.map #[] 0)) := fun W => mk_map0 _ W
  refine callsIn_of_wp_marks Tryz.func21 rfl trivial ?_ rfl
  simp only [Tryz.ntmps21, List.size_toArray, List.length_cons, List.length_nil, Nat.reduceAdd, Nat.reduceSub, Array.replicate_succ, Array.replicate_zero, List.push_toArray, List.append_toArray, List.nil_append, List.cons_append]
  -- @P1
  gi_wp2_with fail
  refine ⟨trivial, ?_⟩
  refine (tbackward_in Fence.wide 5 trivial rfl _ _ _ _).mono ?_
  rintro e w' ⟨rfl, rfl⟩
  gi_wp2_with fail
  have hI0 : OrdI w (((((w.alloc (.cells #[.bool false] 4)).alloc (.map #[] 0)).alloc (.cells #[.map (some (w.heap.size + 1))] 46)).alloc (.cells #[.func (.func 44) #[] #[.pointer (some ⟨w.heap.size + 1 + 1, 0, none⟩)]] 51)).alloc (.cells #[.slice A 2 cap] 22)) A cap [] := by
    have b0 := Boxed.new w 4 (.bool false)
    have hm := StrMap.made (w.alloc (.cells #[.bool false] 4))
    have b2 := Boxed.new ((w.alloc (.cells #[.bool false] 4)).alloc (.map #[] 0)) 46 (.map (some (w.heap.size + 1)))
    have b3 := Boxed.new (((w.alloc (.cells #[.bool false] 4)).alloc (.map #[] 0)).alloc (.cells #[.map (some (w.heap.size + 1))] 46)) 51 (.func (.func 44) #[] #[.pointer (some ⟨w.heap.size + 1 + 1, 0, none⟩)])
    have b4 := Boxed.new ((((w.alloc (.cells #[.bool false] 4)).alloc (.map #[] 0)).alloc (.cells #[.map (some (w.heap.size + 1))] 46)).alloc (.cells #[.func (.func 44) #[] #[.pointer (some ⟨w.heap.size + 1 + 1, 0, none⟩)]] 51)) 22 (.slice A 2 cap)
    simp only [World.size_alloc] at hm b2 b3 b4
    rw [← setF_nil] at hm
    refine ⟨(((b0.alloc _).alloc _).alloc _).alloc _, (b2.alloc _).alloc _, b3.alloc _, b4, ?_, ?_, fine_nil⟩
    · exact StrMap.on (StrMap.on (StrMap.on hm (below_box _)) (below_box _)) (below_box _)
    · exact ((((Below.refl _ _).alloc (Nat.le_refl _) _).alloc (by simp) _).alloc (by simp; omega) _ |>.alloc (by simp; omega) _).alloc (by simp; omega) _
  obtain ⟨W0, hW0⟩ : ∃ W0, (((((w.alloc (.cells #[.bool false] 4)).alloc (.map #[] 0)).alloc (.cells #[.map (some (w.heap.size + 1))] 46)).alloc (.cells #[.func (.func 44) #[] #[.pointer (some ⟨w.heap.size + 1 + 1, 0, none⟩)]] 51)).alloc (.cells #[.slice A 2 cap] 22)) = W0 := ⟨_, rfl⟩
  have hsz : W0.heap.size = w.heap.size + 5 := by rw [← hW0]; simp
  try simp only [World.size_alloc]
  rw [hW0] at hI0 ⊢
  clear hW0
  have hps : patR.Row W0 w.heap.size A [x, y] := HD.out.pats.1.below hI0.b
  -- @P2
  refine wpIn_rangeFunc_ownH rfl h1 (gf := 70) (lb := #[.pointer (some ⟨w.heap.size + 4, 0, none⟩)]) rfl trivial (enters_of Tryz.func70 (by kernel_rfl) rfl)
    (tbackward_stops Fence.wide (6 - 1) trivial rfl (by decide) w.heap.size (w.heap.size + 4) cap A [x, y] (by simp) W0 (by omega) hI0.s hps) KpB.trans (kpB_put (by omega) (by omega)) (Below.refl _ _) (fun _ => rfl)
    (fun ys W => OrdI w W A cap (ys.map fun x => x.1))
    (fun c ys W => c = .ret ∧ Boxed W w.heap.size 4 (.bool false) ∧ Below w.heap.size w W)
    (ord_own w A cap _ (by omega) _)
    (fun c => ordx_own w _ (by omega) _)
    hI0
    (fun x9 a' W => ∃ Bx, w.heap.size + 4 < Bx ∧ PatB W Bx (.string ([x, y][x9.1]'x9.2).name) (.slice ([x, y][x9.1]'x9.2).a1 ([x, y][x9.1]'x9.2).deps.length ([x, y][x9.1]'x9.2).c1) (.slice ([x, y][x9.1]'x9.2).a2 ([x, y][x9.1]'x9.2).ops.length ([x, y][x9.1]'x9.2).c2) ∧ a' = { tmps := #[.slice A 2 cap, undef, .pointer (some ⟨w.heap.size, 0, none⟩), .pointer (some ⟨w.heap.size + 1 + 1, 0, none⟩), .pointer (some ⟨w.heap.size + 1 + 1 + 1, 0, none⟩), undef, .pointer (some ⟨Bx, 0, none⟩), .map (some (w.heap.size + 1)), .func (.func 44) #[] #[.pointer (some ⟨w.heap.size + 1 + 1, 0, none⟩)], .slice A 2 cap, .func (.func 70) #[] #[.pointer (some ⟨w.heap.size + 4, 0, none⟩)], .int .i64 x9.1, ([x, y][x9.1]'x9.2).val, undef, undef, undef, undef, undef, undef, undef, undef], defers := [] })
    (fun x a' _ X Y row hs hg hr => by
      obtain ⟨Bx, h1, h2, h3⟩ := hs
      refine ⟨Bx, h1, ⟨(hg.block Bx h2.lt (fun e => ?_)).trans h2.blk⟩, h3⟩
      obtain ⟨_, o, h4, h5⟩ := hr Bx e.symm
      rw [h2.blk] at h4
      cases h4
      cases h5)
    ?assign ?body ?done ?stop
  case assign =>
    rintro lp pre ⟨i, hi⟩ W K hI hK
    unfold CameT.cells
    dsimp only
    unfold Ptm.val Ptm.cells
    have hlt := hI.s.lt
    obtain ⟨hb, hx⟩ := pat_box W ([x, y][i])
    gi_wp2
    exact hK _ _ ((KeepsOthers.alloc _ _).from _) (kpB_on hb hI.b.size) (hI.go (World.grownBy_alloc W _ none) (by simp)) ⟨W.heap.size, hlt, hx, rfl⟩
  case body =>
    rintro lp pre ⟨i, hi⟩ a' W hl2 ⟨r, hr⟩ hI ⟨Bx, hBx, hX, rfl⟩ hlen
    have hi2 : i < 2 := hi
    have hlen2 : pre.length < 2 := hlen
    obtain ⟨hn, hdp⟩ := HN.out i hi
    have hm : i = 0 ∨ i = 1 := by omega
    have hzx : ∀ z ∈ [x, y], z.name.size ≤ 9223372036854775807 := fun z hz => by have := (HD.out.inn z hz).name; omega
    have hz := hzx _ (List.getElem_mem hi)
    have hds := ((HD.out.pats.2 _ (List.getElem_mem hi)).deps).below hI.b
    have hdl : ∀ d ∈ ([x, y][i]).deps, d.length ≤ 9223372036854775807 := fun d hd9 => by
      rw [hdp] at hd9
      rcases hm with rfl | rfl <;> simp [dpO] at hd9
      subst hd9
      decide
    dsimp only at hX ⊢
    unfold Ptm.val Ptm.cells
    obtain ⟨b9, hb9⟩ : ∃ b9, ((dpO i).any fun n => decide (n ∈ ((pre.map fun x => x.1) ++ [i]).map nmO)) = b9 := ⟨_, rfl⟩
    have hdn : ([x, y][i]).deps.length ≤ 1000000 := by rw [hdp]; rcases hm with rfl | rfl <;> decide
    generalize [x, y][i] = z at *
    have c0 := hX.c0
    have c1 := hX.c1
    have cm := hI.mv.cell
    have cf := hI.fv.cell
    have cc := hI.c.cell
    obtain ⟨w3, hput, hm3, hg3⟩ := StrMap.put 46 47 Tryz.underlying46 hI.m hz (by rw [List.length_map]; omega) (.agg #[])
    have hne : ∀ k, k ≠ w.heap.size + 1 → some k ≠ some (w.heap.size + 1) := fun k hk e => hk (Option.some.inj e)
    have X3 : PatB w3 Bx _ _ _ := ⟨(hg3.block Bx hX.lt (hne _ (by omega))).trans hX.blk⟩
    have d1 := X3.c1
    have df := (hI.fv.kept hg3 (hne _ (by omega))).cell
    have B2 := hI.mv.kept hg3 (hne _ (by omega))
    have B0 := hI.c.kept hg3 (hne _ (by omega))
    have hb3 : Below w.heap.size W w3 := (Below.refl w.heap.size W).grown hg3 hI.b.size (fun q hq => by simp only [Option.some.injEq] at hq; omega)
    have hs3 : SetM w3 (w.heap.size + 1) ((pre.map fun x => x.1).length + 1) (((pre.map fun x => x.1) ++ [i]).map nmO) := by
      have hm4 := hm3
      rw [List.map_append]
      rw [setF_put, hn] at hm4
      exact hm4
    have CI := Lib.hid (dordered_contains (w.heap.size + 2) _ _ z.a1 z.deps z.c1 w3 ⟨_, B2.cell, hs3⟩ ((hds.below hb3).more (Nat.le_trans hI.b.size hg3.size)) hdn hdl b9 (by rw [hdp]; exact hb9))
    have hsz3 := hI.b.size
    have HI := Lib.hid hI
    have HM3 := Lib.hid hm3
    have HG3 := Lib.hid hg3
    have HZ := Lib.hid hn
    have HB0 := Lib.hid B0
    have HB3 := Lib.hid hb3
    have HH : Hid (((dpO i).any fun n => decide (n ∈ ((pre.map fun x => x.1) ++ [i]).map nmO)) = b9) := hb9
    have hKF : Hid (KeepsFrom W0.heap.size W w3) := KeepsFrom.of_grownBy hg3 (fun j e => by cases e; omega)
    have hKP : Hid (KpB w.heap.size (w.heap.size + 4) W w3) := kpB_put1 hg3 hsz3 (fun r e => by cases e; omega)
    have hlt0 : Hid (w.heap.size ≤ w3.heap.size) := Nat.le_trans hsz3 hg3.size
    clear hI hm3 hg3 hn hdp hds hdl hdn hb9 hb3 hs3 B2 B0 X3 hne hm hzx
    cases b9 with
    | false =>
      gi_wp2_with (refine ⟨trivial, ?_⟩; gi_at_call 30; refine (CallsIn.inRound lp (callsIn_wide.2 CI.out)).mono ?_; rintro e w5 ⟨rfl, hb5⟩; have B5 : Hid (Boxed w5 w.heap.size 4 (.bool false)) := (hb5.block _ HB0.out.lt).trans HB0.out; have q0 := B5.out.cell; have qf := B5.out.frozen)
      refine ⟨hKF.out.trans (keeps_below hb5), hKP.out.trans (kpB_on hb5 hlt0.out), ?_⟩
      show OrdI w w5 A cap (List.map (fun x => x.1) (pre ++ [⟨i, hi⟩]))
      rw [List.map_append]
      exact HI.out.round HZ.out HM3.out HG3.out hb5 HH.out
    | true =>
      gi_wp2_with (refine ⟨trivial, ?_⟩; gi_at_call 30; refine (CallsIn.inRound lp (callsIn_wide.2 CI.out)).mono ?_; rintro e w5 ⟨rfl, hb5⟩; have B5 : Hid (Boxed w5 w.heap.size 4 (.bool false)) := (hb5.block _ HB0.out.lt).trans HB0.out; have q0 := B5.out.cell; have qf := B5.out.frozen)
      have hg5 := grownBy_setCell' w5 w.heap.size (.bool false)
      refine ⟨(hKF.out.trans (keeps_below hb5)).trans (KeepsFrom.of_grownBy hg5 (fun j e => by cases e; omega)), ?_⟩
      exact ⟨rfl, B5.out.set _, ((HI.out.b.trans HB3.out).trans (hb5.mono hlt0.out)).grown hg5 (Nat.le_trans hlt0.out hb5.size) (fun q hq => by cases hq; omega)⟩
  case done =>
    rintro D ys W hD hys hI hK
    have h := hI.f
    rw [hys] at h
    exact absurd h fine_not
  case stop =>
    rintro D c pre W hD _ ⟨rfl, hc, hb⟩ hK
    have hc2 : Boxed (W.putObj D (.deferred none)) w.heap.size 4 (.bool false) := hc.kept (grownBy_putObj' W D _) (fun e => by cases e; omega)
    have hb2 := hb.grown (grownBy_putObj' W D (.deferred none)) hb.size (fun q hq => by cases hq; omega)
    gi_wp2
    refine ⟨by simp, .inl ⟨_, _, rfl, run_takeDeferred hK, ?_⟩⟩
    exact ⟨_, ret_var rfl _ _ _ _ rfl hc2.cell, rfl, hb2⟩
end Go.Proofs.YtifkpelcdihdoaaGreatDoor
