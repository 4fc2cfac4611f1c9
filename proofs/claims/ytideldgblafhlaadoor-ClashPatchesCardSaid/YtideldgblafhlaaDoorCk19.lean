/- Package clash: Patches. Package clash: Pairs. The operations of awake of layer 15. -/
import Derived.Lib.SlicesCompact
import Derived.Test.YtideldgblafhlaaDoorShelf
import Derived.BigQuiet
import Derived.Deep.QuietTactic
import Derived.Test.YtideldgblafhlaaDoorProg
import Derived.WalkKit
import Derived.WalkSpells
import Derived.Handy
import Derived.Lib.Hide
import Derived.Shelf.Strings.BuilderK
import Derived.Test.YtideldgblafhlaaDoorCk18
namespace Go.Proofs.YtideldgblafhlaaDoor
open Go.RowKit Go.Shelf
set_option linter.unusedVariables false

attribute [local go_sem] Oper.semAt_some

set_option maxHeartbeats 4000000 in
set_option maxRecDepth 100000 in
theorem cpairs_any (p q : Ptm) (w : World) : Calls Tryd.prog 23 #[.agg #[.string p.name, .slice p.a1 p.deps.length p.c1, .slice p.a2 p.ops.length p.c2], .agg #[.string q.name, .slice q.a1 q.deps.length q.c1, .slice q.a2 q.ops.length q.c2]] w fun e w' => e = .returned (.func (.func 36) #[] #[.pointer (some ⟨w.heap.size, 0, none⟩), .pointer (some ⟨w.heap.size + 1, 0, none⟩)]) ∧
    w' = (w.alloc (.cells #[.string p.name, .slice p.a1 p.deps.length p.c1, .slice p.a2 p.ops.length p.c2] 42)).alloc (.cells #[.string q.name, .slice q.a1 q.deps.length q.c1, .slice q.a2 q.ops.length q.c2] 42) := by
  go_enter Tryd.func23, Tryd.ntmps23
  go_wp2
  go_ret
  exact ⟨rfl, rfl⟩
theorem cpairs_stops (n : Nat) (hn : 1 ≤ n) (n₀ g1 g2 : Nat) (p q : Ptm) (w : World) (hp : PatAt w g1 p) (hq : PatAt w g2 q) (op : OpsR w n₀ p.a2 p.ops) (oq : OpsR w n₀ q.a2 q.ops) (hn0 : n₀ ≤ w.heap.size) :
    SeqStopsK Fence.wide n Tryd.prog 36 #[.pointer (some ⟨g1, 0, none⟩), .pointer (some ⟨g2, 0, none⟩)] cameP (KpT n₀) (fun ys => ys = whysG (okeys q.ops) 0 (okeys p.ops)) (fun pre => ∃ r, whysG (okeys q.ops) 0 (okeys p.ops) = pre ++ r) (whysG (okeys q.ops) 0 (okeys p.ops)).length w := fun l J Jx W hW hJ _ hY h0 =>
  cpairs1_in n hn l n₀ g1 g2 p q J Jx W hJ hY (hp.on hW) (hq.on hW) (op.kp (KpT.of hW hn0)) (oq.kp (KpT.of hW hn0)) (Nat.le_trans hn0 hW.size) h0
theorem pats_box (w : World) (p q : Ptm) : Below w.heap.size w ((w.alloc (.cells #[.string p.name, .slice p.a1 p.deps.length p.c1, .slice p.a2 p.ops.length p.c2] 42)).alloc (.cells #[.string q.name, .slice q.a1 q.deps.length q.c1, .slice q.a2 q.ops.length q.c2] 42)) ∧
    PatAt ((w.alloc (.cells #[.string p.name, .slice p.a1 p.deps.length p.c1, .slice p.a2 p.ops.length p.c2] 42)).alloc (.cells #[.string q.name, .slice q.a1 q.deps.length q.c1, .slice q.a2 q.ops.length q.c2] 42)) w.heap.size p ∧ PatAt ((w.alloc (.cells #[.string p.name, .slice p.a1 p.deps.length p.c1, .slice p.a2 p.ops.length p.c2] 42)).alloc (.cells #[.string q.name, .slice q.a1 q.deps.length q.c1, .slice q.a2 q.ops.length q.c2] 42)) (w.heap.size + 1) q := by
  obtain ⟨b1, h1⟩ := pat_box w p
  obtain ⟨b2, h2⟩ := pat_box (w.alloc (.cells #[.string p.name, .slice p.a1 p.deps.length p.c1, .slice p.a2 p.ops.length p.c2] 42)) q
  refine ⟨b1.trans (b2.mono b1.size), h1.on b2, ?_⟩
  rw [World.size_alloc] at h2
  exact h2
theorem opsR_of {w : World} {p : Ptm} (h : p.Ok w w.heap.size) (hm : ∀ x ∈ p.ops, mayO x.key = true) (hf : p.ops.length ≤ 100000) : OpsR w w.heap.size p.a2 p.ops := ⟨h.ops, fun x hx => rg_of (hm x hx), hf⟩
theorem ret_vi {fn : Func} {p : Tmp} (h : fn.results = #[.cell p 3]) (tmps : Array Value) (w : World) (g : Nat) (v : Value) (hp : tmps.getD p undef = .pointer (some ⟨g, 0, none⟩)) (k : w.cell? ⟨g, 0, none⟩ = some v) : (results fn tmps).run Tryd.prog w = .ok v w := by
  have l1 : (loadVar 3 ⟨g, 0, none⟩).run Tryd.prog w = .ok v w := by simp [loadVar, go_sem, k]
  have e : (results fn tmps).run Tryd.prog w = ((asAddr (tmps.getD p undef)).run Tryd.prog w).andThen fun a w₁ => (loadVar 3 a).run Tryd.prog w₁ := by
    simp only [results, h]
    simp [Sem.run_bind, Result.andThen]
  rw [e, hp]
  simp [asAddr, Result.andThen, l1]
theorem keepsF_below {B : Nat} {X Y : World} (h : Below X.heap.size X Y) : KeepsFrom B X Y :=
  ⟨h.size, fun k o _ hk ho => (h.block k (Array.getElem?_eq_some_iff.1 hk).1).trans hk⟩
set_option maxRecDepth 100000 in
set_option maxHeartbeats 8000000 in
theorem cpatches_any (p q : Ptm) (w : World) (op : OpsR w w.heap.size p.a2 p.ops) (oq : OpsR w w.heap.size q.a2 q.ops) (r : Int) (hr : patchesC (okeys p.ops) (okeys q.ops) = r) :
    Calls Tryd.prog 13 #[.agg #[.string p.name, .slice p.a1 p.deps.length p.c1, .slice p.a2 p.ops.length p.c2], .agg #[.string q.name, .slice q.a1 q.deps.length q.c1, .slice q.a2 q.ops.length q.c2]] w fun e w' => e = .returned (.int .i64 r) ∧ Below w.heap.size w w' := by
  obtain ⟨hb, hp, hq⟩ := pats_box w p q
  have hal : Below ((w.alloc (.cells #[.string p.name, .slice p.a1 p.deps.length p.c1, .slice p.a2 p.ops.length p.c2] 42)).alloc (.cells #[.string q.name, .slice q.a1 q.deps.length q.c1, .slice q.a2 q.ops.length q.c2] 42)).heap.size _ (((w.alloc (.cells #[.string p.name, .slice p.a1 p.deps.length p.c1, .slice p.a2 p.ops.length p.c2] 42)).alloc (.cells #[.string q.name, .slice q.a1 q.deps.length q.c1, .slice q.a2 q.ops.length q.c2] 42)).alloc (.cells #[.int .i64 0] 3)) := (Below.refl _ _).alloc (Nat.le_refl _) _
  have HB := Lib.hid (hb.trans (hal.mono hb.size))
  have HP := Lib.hid (hp.on hal)
  have HQ := Lib.hid (hq.on hal)
  have HR0 := Boxed.new ((w.alloc (.cells #[.string p.name, .slice p.a1 p.deps.length p.c1, .slice p.a2 p.ops.length p.c2] 42)).alloc (.cells #[.string q.name, .slice q.a1 q.deps.length q.c1, .slice q.a2 q.ops.length q.c2] 42)) 3 (.int .i64 0)
  simp only [World.size_alloc] at HR0
  have HRB := Lib.hid HR0
  have OP := Lib.hid op
  have OQ := Lib.hid oq
  have HR := Lib.hid hr
  clear hb hp hq hal HR0 op oq hr
  refine (callsIn_wide (n := 6)).1 ?_
  have h1 : 1 ≤ 6 := by decide
  refine callsIn_of_wp_marks Tryd.func13 rfl trivial ?_ rfl
  simp only [Tryd.ntmps13, List.size_toArray, List.length_cons, List.length_nil, Nat.reduceAdd, Nat.reduceSub, Array.replicate_succ, Array.replicate_zero, List.push_toArray, List.append_toArray, List.nil_append, List.cons_append]
  -- @P1
  gi_wp2_with fail
  have HGR : Hid (w.heap.size ≤ w.heap.size + 1 + 1) := by show _ ≤ _; omega
  generalize w.heap.size + 1 + 1 = gr at *
  generalize w.heap.size + 1 = g1 at *
  have HSZ : Hid (w.heap.size ≤ _) := HB.out.size
  generalize hw1 : (((w.alloc (.cells #[.string p.name, .slice p.a1 p.deps.length p.c1, .slice p.a2 p.ops.length p.c2] 42)).alloc (.cells #[.string q.name, .slice q.a1 q.deps.length q.c1, .slice q.a2 q.ops.length q.c2] 42)).alloc (.cells #[.int .i64 0] 3)) = w1 at *
  refine ⟨trivial, (callsIn_wide.2 (cpairs_any p q w1)).mono ?_⟩
  rintro e w' ⟨rfl, rfl⟩
  gi_wp2_with fail
  obtain ⟨hb2, hp2, hq2⟩ := pats_box w1 p q
  obtain ⟨W0, hW0⟩ : ∃ W0, ((w1.alloc (.cells #[.string p.name, .slice p.a1 p.deps.length p.c1, .slice p.a2 p.ops.length p.c2] 42)).alloc (.cells #[.string q.name, .slice q.a1 q.deps.length q.c1, .slice q.a2 q.ops.length q.c2] 42)) = W0 := ⟨_, rfl⟩
  rw [hW0] at hb2 hp2 hq2 ⊢
  have hR2 : Boxed W0 gr 3 (.int .i64 0) := bx_on HRB.out hb2
  have hB2 : Below w.heap.size w W0 := HB.out.trans (hb2.mono HSZ.out)
  have hgl : gr < W0.heap.size := hR2.lt
  have hgr := HGR.out
  have hn0 : w.heap.size ≤ W0.heap.size := hB2.size
  have k0 : KpT w.heap.size w W0 := ⟨hB2, hn0, fun k o hk ho => (hB2.block k (Array.getElem?_eq_some_iff.1 hk).1).trans hk⟩
  have op2 := OP.out.kp k0
  have oq2 := OQ.out.kp k0
  clear hW0 k0 HP HQ HRB HB
  -- @P2
  refine wpIn_rangeFunc_ownH rfl h1 (gf := 36) (lb := #[.pointer (some ⟨w1.heap.size, 0, none⟩), .pointer (some ⟨w1.heap.size + 1, 0, none⟩)]) rfl trivial (enters_of Tryd.func36 (by kernel_rfl) rfl)
    (cpairs_stops (6 - 1) (by decide) w.heap.size w1.heap.size (w1.heap.size + 1) p q W0 hp2 hq2 op2 oq2 hn0) KpT.trans (kpT_put hn0) (Below.refl _ _) (fun _ => rfl)
    (fun ys W => ys = [] ∧ Boxed W gr 3 (.int .i64 0) ∧ Below w.heap.size w W)
    (fun c ys W => c = .ret ∧ ∃ z : CameP, ys = [z] ∧ Boxed W gr 3 (.int .i64 z.2) ∧ Below w.heap.size w W)
    (fun ys X Y row h hg hr => ⟨h.1, h.2.1.kept hg (fun e => by have := (hr _ e.symm).1; omega), h.2.2.grown hg h.2.2.size (fun k hk => by have := (hr k hk).1; omega)⟩)
    (fun c ys X Y row h hg hr => by
      obtain ⟨hc, z, hz, hbx, hbl⟩ := h
      exact ⟨hc, z, hz, hbx.kept hg (fun e => by have := (hr _ e.symm).1; omega), hbl.grown hg hbl.size (fun k hk => by have := (hr k hk).1; omega)⟩)
    ⟨rfl, hR2, hB2⟩
    (fun x a' W => a' = { tmps := #[.agg #[.string p.name, .slice p.a1 p.deps.length p.c1, .slice p.a2 p.ops.length p.c2], .agg #[.string q.name, .slice q.a1 q.deps.length q.c1, .slice q.a2 q.ops.length q.c2], .pointer (some ⟨w.heap.size, 0, none⟩), .pointer (some ⟨g1, 0, none⟩), .pointer (some ⟨gr, 0, none⟩), undef, .int .i64 x.2, .agg #[.string p.name, .slice p.a1 p.deps.length p.c1, .slice p.a2 p.ops.length p.c2], .agg #[.string q.name, .slice q.a1 q.deps.length q.c1, .slice q.a2 q.ops.length q.c2], .func (.func 36) #[] #[.pointer (some ⟨w1.heap.size, 0, none⟩), .pointer (some ⟨w1.heap.size + 1, 0, none⟩)], .agg #[.int .i64 (x.1.1 : Int), .int .i64 (x.1.2 : Int)], .int .i64 x.2, undef], defers := [] })
    (fun x a' _ X Y row hs hg hr => hs)
    ?assign ?body ?done ?stop
  case assign =>
    rintro lp pre z W K hI hK
    unfold cameP
    dsimp only
    gi_wp2
    exact hK _ _ (KeepsFrom.refl _ _) (KpT.refl _ _) hI rfl
  case body =>
    rintro lp pre z a' W hl2 ⟨r9, hr9⟩ ⟨rfl, hbx, hbl⟩ rfl hlen
    have c0 := hbx.cell
    have f0 := hbx.frozen
    have hg := grownBy_setCell' W gr (.int .i64 z.2)
    gi_wp2
    refine ⟨KeepsFrom.of_grownBy hg (fun j e => by cases e; exact hgl), rfl, z, rfl, hbx.set _, hbl.grown hg hbl.size (fun k hk => by cases hk; exact hgr)⟩
  case done =>
    rintro D ys W hD hys ⟨rfl, hbx, hbl⟩ hK
    have hr0 : r = 0 := by
      rw [← HR.out, ← whysG_head (okeys q.ops) 0 (okeys p.ops), ← hys]
      rfl
    subst hr0
    have c0 := hbx.cell
    have f0 := hbx.frozen
    have hg := grownBy_setCell' W gr (.int .i64 0)
    have hb4 := hbl.grown hg hbl.size (fun k hk => by cases hk; exact hgr)
    have hK4 : (W.setCell ⟨gr, 0, none⟩ (.int .i64 0)).heap[D]? = some (.deferred (some [])) := (KeepsOthers.setCell W _ _).same D _ hK rfl
    have hc4 : Boxed ((W.setCell ⟨gr, 0, none⟩ (.int .i64 0)).putObj D (.deferred none)) gr 3 (.int .i64 0) := (hbx.set _).kept (grownBy_putObj' _ D _) (fun e => by cases e; omega)
    have hb5 := hb4.grown (grownBy_putObj' (W.setCell ⟨gr, 0, none⟩ (.int .i64 0)) D (.deferred none)) hb4.size (fun k hk => by cases hk; omega)
    gi_wp2
    refine ⟨by simp, .inl ⟨_, _, rfl, run_takeDeferred hK4, ?_⟩⟩
    exact ⟨_, ret_vi rfl _ _ _ _ rfl hc4.cell, rfl, hb5⟩
  case stop =>
    rintro D c pre W hD ⟨rr, hrr⟩ ⟨rfl, z, rfl, hbx, hbl⟩ hK
    have hr0 : r = z.2 := by
      rw [← HR.out, ← whysG_head (okeys q.ops) 0 (okeys p.ops), hrr]
      rfl
    subst hr0
    have hc2 : Boxed (W.putObj D (.deferred none)) gr 3 (.int .i64 z.2) := hbx.kept (grownBy_putObj' W D _) (fun e => by cases e; omega)
    have hb3 := hbl.grown (grownBy_putObj' W D (.deferred none)) hbl.size (fun k hk => by cases hk; omega)
    gi_wp2
    refine ⟨by simp, .inl ⟨_, _, rfl, run_takeDeferred hK, ?_⟩⟩
    exact ⟨_, ret_vi rfl _ _ _ _ rfl hc2.cell, rfl, hb3⟩
end Go.Proofs.YtideldgblafhlaaDoor
namespace Go.Proofs.YtideldgblafhlaaDoor
open Go.RowKit Go.Shelf
set_option linter.unusedVariables false

attribute [local go_sem] Oper.semAt_some

theorem wpListIn_append_i2 {F : Fence} {n : Nat} {w : World} {ops : Array Oper} {rest : List Oper} {o : Oper} {a : Act} {Q : Exit → Act → World → Prop} (hgd : o.guard = none) (s x : Operand)
    (ho : o.op = Op.call { callee := Callee.builtin Builtin.append, args := #[s, x], argTypes := #[43, 43] })
    (B : Nat) (v : Value) (l : List (Int × Int)) (hs : a.eval s = v) (hown : i2R.Own w B v l) (b : Nat) (z : Int × Int) (hx : a.eval x = .slice (some ⟨b, 0, none⟩) 1 1) (hz : i2R.At w b z) (hB : B ≤ w.heap.size) (hle : l.length ≤ 1000000)
    (m : Nat) (hm : m = l.length + 1)
    (h : ∀ A' cap' w', i2R.Own w' B (.slice A' m cap') (l ++ [z]) → w.grownBy w' v.ownBlock → wpListIn F n Tryd.prog ops Q rest (a.put o.dst (.slice A' m cap')) w') : wpListIn F n Tryd.prog ops Q (o :: rest) a w := by
  subst hm
  obtain ⟨i0, hi, hz0, hz1, hz2⟩ := i2R.info_of
  refine wpListIn_append_own w hgd s x i2R.tys ho B i2R.ty i0 _ i2R.k i2R.bytes i2R.und hi hz0 hz1 hz2 i2R.zsz i2R.pos v l.length (i2R.cells l) hs hown ⟨b, 0, none⟩ 1 1 (i2R.enc z) hx (by rw [i2R.len, Nat.one_mul]) ?_ (i2R.one z) (by unfold maxLen; omega) (by show (l.length + 1) * 16 ≤ _; omega) hB ?_
  · intro j u hu
    rw [rec_add, Nat.zero_add]
    exact hz.cell hu
  · intro v' w' hown' hgrow _
    have ho' : i2R.Own w' B v' (l ++ [z]) := by
      unfold Rk.Own
      rw [List.length_append, i2R.cells_app, i2R.cells_one]
      exact hown'
    obtain ⟨A', cap', rfl, _, _, _, _⟩ := ho'.slice
    have e : (l ++ [z]).length = l.length + 1 := by simp
    rw [e] at ho' ⊢
    exact h A' cap' w' ho' hgrow
theorem own_ty {w : World} {B g : Nat} {v : Value} {l : List (Int × Int)} (h : i2R.Own w B v l) (e : v.ownBlock = some g) : ∃ cs f, w.heap[g]? = some (.cells cs 45 f) := by
  rcases Rk.own_cases h with ⟨e1, _⟩ | ⟨g2, cap, e1, _, hbk⟩
  · rw [e1] at e; cases e
  · rw [e1] at e
    obtain rfl : g2 = g := by simpa [Value.ownBlock] using e
    obtain ⟨cur, h1, _⟩ := hbk.h
    exact ⟨cur, _, h1⟩
/-- What a round leaves that put a pair behind the others. -/
theorem kpT_appended {n₀ gl : Nat} {W Wt w1 : World} {v v' u : Value} {B : Nat} {l : List (Int × Int)} (ht : Below W.heap.size W Wt) (hn : n₀ ≤ W.heap.size) (hv : Boxed W gl 43 u) (hrow : i2R.Own W B v l) (hnB : n₀ ≤ B) (hgl : n₀ ≤ gl) (hg : Wt.grownBy w1 v.ownBlock) : KpT n₀ W (w1.setCell ⟨gl, 0, none⟩ v') := by
  have hge : ∀ k, v.ownBlock = some k → n₀ ≤ k := fun k e => Nat.le_trans hnB (hrow.block k e)
  have hg2 := grownBy_setCell' w1 gl v'
  have hb1 : Below n₀ W w1 := (ht.mono hn).grown hg (Nat.le_trans hn ht.size) hge
  have hs1 : n₀ ≤ w1.heap.size := Nat.le_trans (Nat.le_trans hn ht.size) hg.size
  refine ⟨hb1.grown hg2 hs1 (fun k hk => by cases hk; exact hgl), Nat.le_trans (Nat.le_trans ht.size hg.size) hg2.size, fun k o hk ho => ?_⟩
  have h1 : Wt.heap[k]? = some o := (ht.block k (Array.getElem?_eq_some_iff.1 hk).1).trans hk
  have h2 : w1.heap[k]? = some o := (hg.block k (Array.getElem?_eq_some_iff.1 h1).1 (fun e => by
    obtain ⟨cs, f, h3⟩ := own_ty hrow e.symm
    rw [hk] at h3
    cases h3
    simp [mayKeep] at ho)).trans h1
  refine (hg2.block k (Array.getElem?_eq_some_iff.1 h2).1 (fun e => ?_)).trans h2
  cases e
  rw [show W.heap[gl]? = _ from hv] at hk
  cases hk
  simp [mayKeep] at ho
theorem keepsF_own {K B : Nat} {W W' : World} {v : Value} {l : List (Int × Int)} (h : i2R.Own W B v l) (hg : W.grownBy W' v.ownBlock) : KeepsFrom K W W' :=
  ⟨hg.size, fun k o _ hk ho => (hg.block k (Array.getElem?_eq_some_iff.1 hk).1 (fun e => by
    obtain ⟨cs, f, h3⟩ := own_ty h e.symm
    rw [hk] at h3
    cases h3
    cases ho)).trans hk⟩
def toPr (z : CameP) : Int × Int := ((z.1.1 : Int), (z.1.2 : Int))
theorem pairsT_is (p q : List Om) : pairsT p q = (whysG (okeys q) 0 (okeys p)).map toPr := by
  unfold pairsT pairsC
  rw [← whysG_fst, List.map_map]
  rfl
/-- What Pairs' loop keeps. -/
structure PrI (w W : World) (gl : Nat) (l : List (Int × Int)) : Prop where
  h : ∃ A c, Boxed W gl 43 (.slice A l.length c) ∧ i2R.Own W w.heap.size (.slice A l.length c) l
  b : Below w.heap.size w W
theorem PrI.go {w X Y : World} {gl : Nat} {l : List (Int × Int)} {row : Option Nat} (h : PrI w X gl l) (hg : X.grownBy Y row) (hr : ∀ r, row = some r → w.heap.size ≤ r ∧ ∃ o : Obj, X.heap[r]? = some o ∧ o.isCells = false) : PrI w Y gl l := by
  obtain ⟨A, c, h1, h2⟩ := h.h
  refine ⟨⟨A, c, h1.kept hg (fun e => ?_), h2.grown hg (fun g hg2 e => ?_)⟩, h.b.grown hg h.b.size (fun k hk => (hr k hk).1)⟩
  · obtain ⟨_, o, h3, h4⟩ := hr _ e.symm
    rw [show X.heap[gl]? = _ from h1] at h3
    cases h3
    cases h4
  · obtain ⟨_, o, h3, h4⟩ := hr _ e
    obtain ⟨cs, f, h5⟩ := own_ty h2 hg2
    rw [h5] at h3
    cases h3
    cases h4
set_option maxRecDepth 100000 in
set_option maxHeartbeats 8000000 in
theorem cpairsT_any (p q : Ptm) (w : World) (op : OpsR w w.heap.size p.a2 p.ops) (oq : OpsR w w.heap.size q.a2 q.ops) (hN : (whysG (okeys q.ops) 0 (okeys p.ops)).length ≤ 1000000) :
    Calls Tryd.prog 12 #[.agg #[.string p.name, .slice p.a1 p.deps.length p.c1, .slice p.a2 p.ops.length p.c2], .agg #[.string q.name, .slice q.a1 q.deps.length q.c1, .slice q.a2 q.ops.length q.c2]] w (I2Left w (pairsT p.ops q.ops)) := by
  obtain ⟨hb, hp, hq⟩ := pats_box w p q
  have hal : Below ((w.alloc (.cells #[.string p.name, .slice p.a1 p.deps.length p.c1, .slice p.a2 p.ops.length p.c2] 42)).alloc (.cells #[.string q.name, .slice q.a1 q.deps.length q.c1, .slice q.a2 q.ops.length q.c2] 42)).heap.size _ (((w.alloc (.cells #[.string p.name, .slice p.a1 p.deps.length p.c1, .slice p.a2 p.ops.length p.c2] 42)).alloc (.cells #[.string q.name, .slice q.a1 q.deps.length q.c1, .slice q.a2 q.ops.length q.c2] 42)).alloc (.cells #[.slice none 0 0] 43)) := (Below.refl _ _).alloc (Nat.le_refl _) _
  have HB := Lib.hid (hb.trans (hal.mono hb.size))
  have HP := Lib.hid (hp.on hal)
  have HQ := Lib.hid (hq.on hal)
  have HR0 := Boxed.new ((w.alloc (.cells #[.string p.name, .slice p.a1 p.deps.length p.c1, .slice p.a2 p.ops.length p.c2] 42)).alloc (.cells #[.string q.name, .slice q.a1 q.deps.length q.c1, .slice q.a2 q.ops.length q.c2] 42)) 43 (.slice none 0 0)
  simp only [World.size_alloc] at HR0
  have HRB := Lib.hid HR0
  have OP := Lib.hid op
  have OQ := Lib.hid oq
  clear hb hp hq hal HR0 op oq
  refine (callsIn_wide (n := 6)).1 ?_
  have h1 : 1 ≤ 6 := by decide
  refine callsIn_of_wp_marks Tryd.func12 rfl trivial ?_ rfl
  simp only [Tryd.ntmps12, List.size_toArray, List.length_cons, List.length_nil, Nat.reduceAdd, Nat.reduceSub, Array.replicate_succ, Array.replicate_zero, List.push_toArray, List.append_toArray, List.nil_append, List.cons_append]
  -- @P1
  gi_wp2_with fail
  have HGR : Hid (w.heap.size ≤ w.heap.size + 1 + 1) := by show _ ≤ _; omega
  generalize w.heap.size + 1 + 1 = gl at *
  generalize w.heap.size + 1 = g1 at *
  have HSZ : Hid (w.heap.size ≤ _) := HB.out.size
  generalize hw1 : (((w.alloc (.cells #[.string p.name, .slice p.a1 p.deps.length p.c1, .slice p.a2 p.ops.length p.c2] 42)).alloc (.cells #[.string q.name, .slice q.a1 q.deps.length q.c1, .slice q.a2 q.ops.length q.c2] 42)).alloc (.cells #[.slice none 0 0] 43)) = w1 at *
  refine ⟨trivial, (callsIn_wide.2 (cpairs_any p q w1)).mono ?_⟩
  rintro e w' ⟨rfl, rfl⟩
  gi_wp2_with fail
  obtain ⟨hb2, hp2, hq2⟩ := pats_box w1 p q
  obtain ⟨W0, hW0⟩ : ∃ W0, ((w1.alloc (.cells #[.string p.name, .slice p.a1 p.deps.length p.c1, .slice p.a2 p.ops.length p.c2] 42)).alloc (.cells #[.string q.name, .slice q.a1 q.deps.length q.c1, .slice q.a2 q.ops.length q.c2] 42)) = W0 := ⟨_, rfl⟩
  rw [hW0] at hb2 hp2 hq2 ⊢
  have hR2 : Boxed W0 gl 43 (.slice none 0 0) := bx_on HRB.out hb2
  have hB2 : Below w.heap.size w W0 := HB.out.trans (hb2.mono HSZ.out)
  have hgl : gl < W0.heap.size := hR2.lt
  have hgr := HGR.out
  have hn0 : w.heap.size ≤ W0.heap.size := hB2.size
  have k0 : KpT w.heap.size w W0 := ⟨hB2, hn0, fun k o hk ho => (hB2.block k (Array.getElem?_eq_some_iff.1 hk).1).trans hk⟩
  have op2 := OP.out.kp k0
  have oq2 := OQ.out.kp k0
  clear hW0 k0 HP HQ HRB HB
  -- @P2
  refine wpIn_rangeFunc_ownH rfl h1 (gf := 36) (lb := #[.pointer (some ⟨w1.heap.size, 0, none⟩), .pointer (some ⟨w1.heap.size + 1, 0, none⟩)]) rfl trivial (enters_of Tryd.func36 (by kernel_rfl) rfl)
    (cpairs_stops (6 - 1) (by decide) w.heap.size w1.heap.size (w1.heap.size + 1) p q W0 hp2 hq2 op2 oq2 hn0) KpT.trans (kpT_put hn0) (Below.refl _ _) (fun _ => rfl)
    (fun ys W => PrI w W gl (ys.map toPr))
    (fun _ _ _ => False)
    (fun ys X Y row h hg hr => h.go hg fun r e => ⟨Nat.le_trans hn0 (hr r e).1, (hr r e).2⟩)
    (fun _ _ _ _ _ hs _ _ => hs)
    ⟨⟨none, 0, hR2, Rk.Own.nil _ _⟩, hB2⟩
    (fun x a' W => ∃ Bx, i2R.At W Bx (toPr x) ∧ a' = { tmps := #[.agg #[.string p.name, .slice p.a1 p.deps.length p.c1, .slice p.a2 p.ops.length p.c2], .agg #[.string q.name, .slice q.a1 q.deps.length q.c1, .slice q.a2 q.ops.length q.c2], .pointer (some ⟨w.heap.size, 0, none⟩), .pointer (some ⟨g1, 0, none⟩), .slice none 0 0, .pointer (some ⟨gl, 0, none⟩), .pointer (some ⟨Bx, 0, none⟩), .agg #[.string p.name, .slice p.a1 p.deps.length p.c1, .slice p.a2 p.ops.length p.c2], .agg #[.string q.name, .slice q.a1 q.deps.length q.c1, .slice q.a2 q.ops.length q.c2], .func (.func 36) #[] #[.pointer (some ⟨w1.heap.size, 0, none⟩), .pointer (some ⟨w1.heap.size + 1, 0, none⟩)], .agg #[.int .i64 (x.1.1 : Int), .int .i64 (x.1.2 : Int)], .int .i64 x.2, undef, undef, undef, undef, undef], defers := [] })
    (fun x a' _ X Y row hs hg hr => by
      obtain ⟨Bx, h2, h3⟩ := hs
      refine ⟨Bx, (hg.block Bx h2.lt (fun e => ?_)).trans h2, h3⟩
      obtain ⟨_, o, h4, h5⟩ := hr Bx e.symm
      rw [show X.heap[Bx]? = _ from h2] at h4
      cases h4
      cases h5)
    ?assign ?body ?done ?stop
  case assign =>
    rintro lp pre z W K hI hK
    unfold cameP
    dsimp only
    have hal := (Below.refl W.heap.size W).alloc (Nat.le_refl _) (.cells #[.int .i64 (z.1.1 : Int), .int .i64 (z.1.2 : Int)] 45)
    have hat : i2R.At (W.alloc (.cells #[.int .i64 (z.1.1 : Int), .int .i64 (z.1.2 : Int)] 45)) W.heap.size (toPr z) := Rk.At.new_ (R := i2R) W (toPr z)
    gi_wp2
    exact hK _ _ ((KeepsOthers.alloc _ _).from _) (KpT.of hal hI.b.size) (hI.go (World.grownBy_alloc W _ none) (by simp)) ⟨W.heap.size, hat, rfl⟩
  case body =>
    rintro lp pre z a' W hl2 ⟨r9, hr9⟩ hI ⟨Bx, hat, rfl⟩ hlen
    obtain ⟨A, c, h2, h3⟩ := hI.h
    have hll : (pre.map toPr).length ≤ 1000000 := by rw [List.length_map]; omega
    have hls : (pre ++ [z]).map toPr = pre.map toPr ++ [toPr z] := by simp
    have HI := Lib.hid hI
    have HLS := Lib.hid hls
    clear hI hls
    generalize pre.map toPr = l at *
    have c0 := h2.cell
    have z0 : W.cell? ⟨Bx, 0, none⟩ = some (.int .i64 (z.1.1 : Int)) := hat.cell (r := 0) rfl
    have z1 : W.cell? ⟨Bx, 1, none⟩ = some (.int .i64 (z.1.2 : Int)) := hat.cell (r := 1) rfl
    have hal : Below W.heap.size W (W.alloc (.cells #[.int .i64 (z.1.1 : Int), .int .i64 (z.1.2 : Int)] 45)) := (Below.refl W.heap.size W).alloc (Nat.le_refl _) _
    have hnew : i2R.At (W.alloc (.cells #[.int .i64 (z.1.1 : Int), .int .i64 (z.1.2 : Int)] 45)) W.heap.size (toPr z) := Rk.At.new_ (R := i2R) W (toPr z)
    have hO := h3.kept hal
    have hbx := h2.alloc (.cells #[.int .i64 (z.1.1 : Int), .int .i64 (z.1.2 : Int)] 45)
    have hBs : w.heap.size ≤ (W.alloc (.cells #[.int .i64 (z.1.1 : Int), .int .i64 (z.1.2 : Int)] 45)).heap.size := Nat.le_trans HI.out.b.size hal.size
    have HAT := Lib.hid hnew
    have HO := Lib.hid hO
    have HBX := Lib.hid hbx
    have HAL := Lib.hid hal
    have HH3 := Lib.hid h3
    have HH2 := Lib.hid h2
    have HBS := Lib.hid hBs
    clear hnew hO hbx hal h3 h2 hBs hat
    gi_wp2_with (gi_at_builtin; refine wpListIn_append_i2 rfl _ _ rfl w.heap.size (.slice A l.length c) l rfl HO.out W.heap.size (toPr z) rfl HAT.out HBS.out hll (l.length + 1) rfl ?_; intro A' c' w3 ho hg; have hb3 : Boxed w3 gl 43 (.slice A l.length c) := HBX.out.kept hg (HBX.out.not_row (by decide) HO.out); have q0 := hb3.cell; have f0 := hb3.frozen)
    have hg2 := grownBy_setCell' w3 gl (.slice A' (l.length + 1) c')
    have hge : ∀ k, (Value.slice A l.length c).ownBlock = some k → w.heap.size ≤ k := fun k e => HO.out.block k e
    have hB3 : Below w.heap.size w w3 := (HI.out.b.trans (HAL.out.mono HI.out.b.size)).grown hg HBS.out hge
    refine ⟨((keepsF_below HAL.out).trans (keepsF_own HO.out hg)).trans ((KeepsOthers.setCell _ _ _).from _), kpT_appended HAL.out HI.out.b.size HH2.out HH3.out (Nat.le_refl _) hgr hg, ?_⟩
    show PrI w _ gl ((pre ++ [z]).map toPr)
    rw [HLS.out]
    refine ⟨⟨A', c', ?_, ?_⟩, hB3.grown hg2 hB3.size (fun k hk => by cases hk; exact hgr)⟩
    · rw [show (l ++ [toPr z]).length = l.length + 1 from by simp]
      exact hb3.set _
    · rw [show (l ++ [toPr z]).length = l.length + 1 from by simp]
      exact ho.grown hg2 (fun g hg4 e => hb3.not_row (by decide) ho (by rw [hg4]; exact e))
  case done =>
    rintro D ys W hD hys hI hK
    rw [hys, ← pairsT_is] at hI
    obtain ⟨A, c, h2, h3⟩ := hI.h
    have c0 := h2.cell
    have hput := grownBy_putObj' W D (.deferred none)
    have hcl : ∀ (k : Nat) (o : Obj), W.heap[k]? = some o → o.isCells = true → (W.putObj D (.deferred none)).heap[k]? = some o := fun k o hk ho => (hput.block k (Array.getElem?_eq_some_iff.1 hk).1 (fun e => by cases e; rw [hK] at hk; cases hk; cases ho)).trans hk
    have hI2 := hI.go hput (fun r e => by cases e; exact ⟨Nat.le_trans hn0 hD, _, hK, rfl⟩)
    have HV : Hid (I2Left w (pairsT p.ops q.ops) (.returned (.slice A (pairsT p.ops q.ops).length c)) (W.putObj D (.deferred none))) := by
      refine ⟨A, c, rfl, ?_, hI2.b⟩
      exact (h3.grown hput (fun g hg2 e => by
        obtain ⟨cs, f, h5⟩ := own_ty h3 hg2
        cases e
        rw [hK] at h5
        cases h5)).parts.2.1
    clear hcl hI2 hput h2 h3 hI
    generalize pairsT p.ops q.ops = l at *
    gi_wp2
    refine ⟨by simp, .inl ⟨_, _, rfl, run_takeDeferred hK, ?_⟩⟩
    refine ⟨_, results_tmp rfl _ _ _, ?_⟩
    have hv := HV.out
    exact hv
  case stop =>
    rintro D c pre W hD _ h _
    exact h.elim
end Go.Proofs.YtideldgblafhlaaDoor
namespace Go.Proofs.YtideldgblafhlaaDoor
open Go.RowKit
set_option linter.unusedVariables false

def zI : Im := ⟨⟨#[]⟩, 0⟩
def awOa : Om := ⟨2, ⟨⟨#[97]⟩, 0⟩, zI, zI, ⟨#[120]⟩, ⟨#[]⟩, zI, zI, none, 0, [], 0, none, 0, []⟩
def awOb : Om := ⟨1, ⟨⟨#[98]⟩, 0⟩, zI, zI, ⟨#[120]⟩, ⟨#[]⟩, zI, zI, none, 0, [], 0, none, 0, []⟩
def awOg : Om := ⟨3, ⟨⟨#[97]⟩, 0⟩, zI, zI, ⟨#[120]⟩, ⟨#[]⟩, zI, zI, none, 0, [], 0, none, 0, []⟩
def awOh (g : Nat) : Om := ⟨5, ⟨⟨#[97]⟩, 0⟩, zI, zI, ⟨#[]⟩, ⟨#[]⟩, ⟨⟨#[]⟩, 1⟩, ⟨⟨#[]⟩, 2⟩, none, 0, [], 0, some ⟨g, 0, none⟩, 1, [[108]]⟩
def awKa : OpK := ⟨2, ([97], 0), zeroI, zeroI, [120], [], zeroI, zeroI, [], 0, []⟩
def awKb : OpK := ⟨1, ([98], 0), zeroI, zeroI, [120], [], zeroI, zeroI, [], 0, []⟩
def awKg : OpK := ⟨3, ([97], 0), zeroI, zeroI, [120], [], zeroI, zeroI, [], 0, []⟩
def awKh : OpK := ⟨5, ([97], 0), zeroI, zeroI, [], [], ([], 1), ([], 2), [], 0, [[108]]⟩
theorem may_a : mayO awKa = true := by decide +kernel
theorem may_b : mayO awKb = true := by decide +kernel
theorem may_g : mayO awKg = true := by decide +kernel
theorem may_h : mayO awKh = true := by decide +kernel
theorem ok_flat {x : Om} {w : World} {B : Nat} (h1 : x.a1 = none ∧ x.dels = [] ∧ x.c1 = 0) (h2 : x.a2 = none ∧ x.lines = [] ∧ x.c2 = 0) : x.Ok w B := by
  obtain ⟨e1, e2, e3⟩ := h1
  obtain ⟨e4, e5, e6⟩ := h2
  refine ⟨?_, ?_, ?_, ?_⟩
  · rw [e1, e2]; exact Rk.Row.nil
  · rw [e1, e2, e3]; exact ⟨fun _ => rfl, Nat.le_refl _⟩
  · rw [e4, e5]; exact Strs.none_
  · rw [e4, e5, e6]; exact ⟨fun _ => rfl, Nat.le_refl _⟩
theorem lt_flat (x : Om) (h : x = awOa ∨ x = awOb ∨ x = awOg) : x.Lt ∧ x.In := by
  rcases h with rfl | rfl | rfl
  all_goals exact ⟨⟨by decide, by decide, by decide, by decide, by decide, by decide, by decide, by decide, by decide, fun i hi => by cases hi⟩, ⟨by decide, by decide, by decide, by decide, by decide, by decide, by decide, by decide, by decide⟩⟩
theorem lt_h (g : Nat) : (awOh g).Lt ∧ (awOh g).In := ⟨⟨Nat.le_of_ble_eq_true rfl, Nat.le_of_ble_eq_true rfl, Nat.le_of_ble_eq_true rfl, Nat.le_of_ble_eq_true rfl, Nat.le_of_ble_eq_true rfl, Nat.le_of_ble_eq_true rfl, Nat.le_of_ble_eq_true rfl, Nat.le_of_ble_eq_true rfl, (by show light3B (toBs [[108]]) = true; decide +kernel), (fun i hi => by cases hi)⟩, ⟨Nat.le_of_ble_eq_true rfl, Nat.le_of_ble_eq_true rfl, Nat.le_of_ble_eq_true rfl, Nat.le_of_ble_eq_true rfl, Nat.le_of_ble_eq_true rfl, Nat.le_of_ble_eq_true rfl, Nat.le_of_ble_eq_true rfl, Nat.le_of_ble_eq_true rfl, Nat.le_of_ble_eq_true rfl⟩⟩
theorem oin_flat (x : Om) (w : World) (h : x = awOa ∨ x = awOb ∨ x = awOg) : OIn x w :=
  ⟨by rcases h with rfl | rfl | rfl <;> exact ok_flat ⟨rfl, rfl, rfl⟩ ⟨rfl, rfl, rfl⟩, by rcases h with rfl | rfl | rfl; exact may_a; exact may_b; exact may_g, (lt_flat x h).1, (lt_flat x h).2⟩
theorem oin_h {w : World} {g : Nat} (h : Strs w w.heap.size (some ⟨g, 0, none⟩) (toBs [[108]])) : OIn (awOh g) w :=
  ⟨⟨Rk.Row.nil, ⟨fun _ => rfl, Nat.le_refl _⟩, h, ⟨(fun e => by cases e), Nat.le_refl _⟩⟩, may_h, (lt_h g).1, (lt_h g).2⟩
end Go.Proofs.YtideldgblafhlaaDoor
