/- Package prim's Back: a range over slices.Backward. -/
import Derived.Test.YtaepfahpbnpeiaaGreatDoorCk31
import Derived.RangeFuncNested
import Derived.RangeFuncBox
import Derived.RangeFuncLeaves
import Derived.Shelf.Abstract
import Derived.WalkKit
import Derived.OwnWalkIn
import Derived.TacticsInMore
import Derived.LoopNIn
import Derived.LoopIn
import Derived.Maps.AppendAt
namespace Go.Proofs.YtaepfahpbnpeiaaGreatDoor
open Go.RowKit Go.Shelf
set_option linter.unusedVariables false

attribute [local go_sem] Oper.semAt_some

/-- What a round keeps: what lay below n₀, and block b. -/
def KpB (n₀ b : Nat) (W W' : World) : Prop := Below n₀ W W' ∧ (b < W.heap.size → W'.heap[b]? = W.heap[b]?)
theorem KpB.trans {n₀ b : Nat} {X Y Z : World} (h : KpB n₀ b X Y) (k : KpB n₀ b Y Z) : KpB n₀ b X Z :=
  ⟨h.1.trans k.1, fun hb => (k.2 (by
    rcases Nat.lt_or_ge b Y.heap.size with h1 | h1
    · exact h1
    · have h2 := h.2 hb
      rw [Array.getElem?_eq_none h1, Array.getElem?_eq_getElem hb] at h2
      cases h2)).trans (h.2 hb)⟩
theorem kpB_put {n₀ b : Nat} {w : World} (hn : n₀ ≤ w.heap.size) (hb : b < w.heap.size) (W : World) (l : Nat) (o o' : Obj) (hl : w.heap.size ≤ l) (h : W.heap[l]? = some o) (h1 : o.isCells = false) (h2 : o.isWalk = false) : KpB n₀ b W (W.putObj l o') :=
  ⟨belowK_b hn W l o o' hl h h1 h2, fun hlt => (grownBy_putObj' W l o').block b hlt (fun e => by cases e; omega)⟩
theorem KpB.refl (n₀ b : Nat) (W : World) : KpB n₀ b W W := ⟨Below.refl _ _, fun _ => rfl⟩

/-- What comes to a round: an index, and one of the steps. -/
abbrev Came (ps : List Pm) := { x : Int × Pm // x.2 ∈ ps }
def Came.cells {ps : List Pm} (x : Came ps) : Array Value := #[.int .i64 x.1.1, x.1.2.val]

set_option maxRecDepth 100000 in
set_option maxHeartbeats 4000000 in
theorem backward1_in (F : Fence) (n : Nat) (hf : F.fn 65) (hro : F.round = none) (hn : 1 ≤ n) (l n₀ Bs cap : Nat) (A : Option Addr) (ps : List Pm) (hlen : ps.length ≤ 100000) (J Jx : List (Came ps) → World → Prop)
    (hY : ∀ pre x W, J pre W → pre.length < ps.length → YieldAt F (n - 1) Tryz.prog l x.cells W fun e W' =>
      (e = .returned (.bool true) ∧ J (pre ++ [x]) W' ∧ KpB n₀ Bs W W') ∨ (e = .returned (.bool false) ∧ Jx (pre ++ [x]) W'))
    (W : World) (hb : Boxed W Bs 23 (.slice A ps.length cap)) (hs : Ps W n₀ A ps) (h0 : J [] W) :
    CallsIn F n Tryz.prog 65 #[.func (.yield l) #[] #[], .pointer (some ⟨Bs, 0, none⟩)] W fun e W' => (∃ v, e = .returned v) ∧
      ((∃ ys, (ys.map fun x => x.1.2) = ps.reverse ∧ J ys W') ∨ (∃ pre, True ∧ Jx pre W')) := by
  have hc := hb.cell
  refine callsIn_of_wp Tryz.func65 rfl hf ?_ hro
  simp only [Tryz.ntmps65, List.size_toArray, List.length_cons, List.length_nil, Nat.reduceAdd, Nat.reduceSub, Array.replicate_succ, Array.replicate_zero, List.push_toArray, List.append_toArray, List.nil_append, List.cons_append]
  gi_wp2
  gi_loopw [3] (fun i wr => ∃ (k : Nat) (pre : List (Came ps)), k ≤ ps.length ∧ i = .int .i64 ((k : Int) - 1) ∧ Hid ((pre.map fun x => x.1.2) = (ps.drop k).reverse ∧ pre.length = ps.length - k) ∧ J pre wr ∧ Hid (KpB n₀ Bs W wr))
    (fun i _ => (intOf i + 1).toNat)
  case atStart => exact ⟨ps.length, [], Nat.le_refl _, rfl, ⟨by simp, by simp⟩, h0, KpB.refl _ _ _⟩
  case round =>
    obtain ⟨k, pre, hk, rfl, hpre, hJ, hkp⟩ := hrel
    have hbx : Boxed wr Bs 23 (.slice A ps.length cap) := (hkp.out.2 hb.lt).trans hb
    have hcx := hbx.cell
    cases k with
    | zero =>
      gi_wp2
      go_end0
      refine ⟨⟨_, rfl⟩, .inl ⟨pre, ?_, hJ⟩⟩
      rw [hpre.out.1, List.drop_zero]
    | succ k =>
      have hlt : k < ps.length := by omega
      obtain ⟨b, off, e, bl, d0, d1, d2, d3, d4, d5⟩ := (hs.below hkp.out.1).get hlt
      subst e
      obtain ⟨fn, tmps, assign, body, hy, hR⟩ := hY pre ⟨((k : Int), ps[k]), List.getElem_mem _⟩ wr hJ (by rw [hpre.out.2]; omega)
      have hnew : Hid (((pre ++ [(⟨((k : Int), ps[k]), List.getElem_mem _⟩ : Came ps)]).map fun x => x.1.2) = (ps.drop k).reverse ∧ (pre ++ [(⟨((k : Int), ps[k]), List.getElem_mem _⟩ : Came ps)]).length = ps.length - k) := by
        refine ⟨?_, by rw [List.length_append, hpre.out.2]; simp; omega⟩
        rw [List.map_append, hpre.out.1, List.drop_eq_getElem_cons hlt, List.reverse_cons]
        rfl
      unfold Came.cells Pm.val at hy
      dsimp only at hy
      have z0 : ((k + 1 : Nat) : Int) - 1 = (k : Int) := by omega
      have z1 : (0 : Int) ≤ (k : Int) := by omega
      have z2 : (k : Int) < (ps.length : Int) := by omega
      rw [z0]
      gi_wp2
      refine hR.mono ?_
      rintro e W3 (⟨rfl, hJ3, hk3⟩ | ⟨rfl, hJx3⟩)
      · gi_wp2
        go_roundw
        case rel => exact ⟨k, _, by omega, by go_num, hnew, hJ3, hkp.out.trans hk3⟩
        case measure => simp [intOf]
      · gi_wp2
        refine bodyPost_ret (results_none rfl _ _ _) rfl ?_
        exact ⟨⟨_, rfl⟩, .inr ⟨_, trivial, hJx3⟩⟩

set_option maxRecDepth 100000 in
set_option maxHeartbeats 1000000 in
theorem backward_in (F : Fence) (n : Nat) (hf : F.fn 36) (hro : F.round = none) (A : Option Addr) (len cap : Nat) (w : World) :
    CallsIn F n Tryz.prog 36 #[.slice A len cap] w fun e w' => e = .returned (.func (.func 65) #[] #[.pointer (some ⟨w.heap.size, 0, none⟩)]) ∧ w' = w.alloc (.cells #[.slice A len cap] 23) := by
  refine callsIn_of_wp Tryz.func36 rfl hf ?_ hro
  simp only [Tryz.ntmps36, List.size_toArray, List.length_cons, List.length_nil, Nat.reduceAdd, Nat.reduceSub, Array.replicate_succ, Array.replicate_zero, List.push_toArray, List.append_toArray, List.nil_append, List.cons_append]
  gi_wp2
  go_ret
  exact ⟨rfl, rfl⟩
theorem backward_stops (F : Fence) (n : Nat) (hf : F.fn 65) (hro : F.round = none) (hn : 1 ≤ n) (n₀ Bs cap : Nat) (A : Option Addr) (ps : List Pm) (hlen : ps.length ≤ 100000) (w : World) (hn₀ : n₀ ≤ w.heap.size) (hb : Boxed w Bs 23 (.slice A ps.length cap)) (hs : Ps w n₀ A ps) :
    SeqStopsK F n Tryz.prog 65 #[.pointer (some ⟨Bs, 0, none⟩)] (Came.cells (ps := ps)) (KpB n₀ Bs) (fun ys => (ys.map fun x => x.1.2) = ps.reverse) (fun _ => True) ps.length w := fun l J Jx W hW _ _ hY h0 =>
  backward1_in F n hf hro hn l n₀ Bs cap A ps hlen J Jx hY W ((hW.block Bs hb.lt).trans hb) (hs.below (hW.mono hn₀)) h0

/-- Steps come back. -/
def StepsLeft (w : World) (ks : List Pk) (e : Ending) (w' : World) : Prop :=
  ∃ (A : Option Addr) (qs : List Pm) (cap : Nat), e = .returned (.slice A (List.length (α := Pm) qs) cap) ∧ Hid (Ps w' w'.heap.size A qs ∧ Room A qs.length cap ∧ pkeys qs = ks ∧ ∀ x ∈ qs, x.Light) ∧ Below w.heap.size w w'
theorem light_inv {x y : Pm} (h : x.Light) (e : y.key = invP x.key) : y.Light := by
  have hs : ∀ s : ByteArray, s.size = s.data.toList.length := fun s => by simp
  have e1 : y.p.data.toList = if x.kind = 5 then x.dst.data.toList else x.p.data.toList := congrArg Pk.path e
  have e2 : y.dst.data.toList = if x.kind = 5 then x.p.data.toList else x.dst.data.toList := congrArg Pk.dst e
  have e3 : y.old = x.new := congrArg Pk.old e
  have e4 : y.new = x.old := congrArg Pk.new e
  refine ⟨?_, ?_, by rw [e3]; exact h.new, by rw [e4]; exact h.old⟩
  · rw [hs, e1]
    split
    · rw [← hs]; exact h.q
    · rw [← hs]; exact h.p
  · rw [hs, e2]
    split
    · rw [← hs]; exact h.p
    · rw [← hs]; exact h.q
/-- Its lines lie where no other row is. -/
theorem Pm.Sep.kept {x : Pm} {X Y : World} {row : Option Nat} (h : x.Sep X) (hg : X.grownBy Y row) (hne : ∀ b cur fz, X.heap[b]? = some (.cells cur 9 fz) → row ≠ some b) : x.Sep Y := by
  have s : ∀ {A : Option Addr} {ls : List (List UInt8)}, StrBlk X A ls → Strs X X.heap.size A (toBs ls) → StrBlk Y A ls ∧ Strs Y Y.heap.size A (toBs ls) := fun {A ls} hb hs => by
    refine ⟨fun hp => ?_, fun hp => ?_⟩
    · obtain ⟨b, off, cur, fz, e, h⟩ := hb hp
      exact ⟨b, off, cur, fz, e, (hg.block b (Array.getElem?_eq_some_iff.1 h).1 (fun e => hne b cur fz h e.symm)).trans h⟩
    · obtain ⟨b, off, e, hlt, hc⟩ := hs hp
      obtain ⟨b2, off2, cur, fz, e2, h⟩ := hb (by rw [toBs_len] at hp; exact hp)
      rw [e] at e2
      simp only [Option.some.injEq, Addr.mk.injEq] at e2
      obtain ⟨rfl, _, _⟩ := e2
      exact ⟨b, off, e, Nat.lt_of_lt_of_le hlt hg.size, fun j hj => World.grownBy.cell hg (hc j hj) (fun e => hne b cur fz h e.symm)⟩
  obtain ⟨ok, b1, b2⟩ := h
  obtain ⟨c1, d1⟩ := s b1 ok.h.old
  obtain ⟨c2, d2⟩ := s b2 ok.h.new
  exact ⟨⟨⟨d1, d2, ok.h.r1, ok.h.r2, ok.h.lo, ok.h.hi, ok.h.n1, ok.h.n2⟩, ok.p, ok.q, ok.lo, ok.hi⟩, c1, c2⟩
/-- What Back holds at each round. -/
structure BackI (w : World) (A : Option Addr) (ps : List Pm) (cap : Nat) (ks : List Pk) (W : World) : Prop where
  h : ∃ v qs, Boxed W w.heap.size 23 v ∧ OwnP W w.heap.size v qs ∧ (∀ y ∈ qs, y.Sep W ∧ y.Light) ∧ pkeys qs = ks
  s : Boxed W (w.heap.size + 1) 23 (.slice A ps.length cap)
  b : Below w.heap.size w W
theorem OwnP.type_of {W : World} {B : Nat} {v : Value} {qs : List Pm} (h : OwnP W B v qs) {g : Nat} (e : v.ownBlock = some g) : ∃ cur fz, W.heap[g]? = some (.cells cur 38 fz) := by
  rcases h.2 with ⟨rfl, _⟩ | ⟨k, cap, cur, rfl, _, hk, _⟩
  · simp [Value.ownBlock] at e
  · obtain rfl : k = g := by simpa [Value.ownBlock] using e
    exact ⟨cur, _, hk⟩
theorem OwnP.kept2 {X Y : World} {B : Nat} {v : Value} {qs : List Pm} {row : Option Nat} (h : OwnP X B v qs) (hg : X.grownBy Y row) (hne : ∀ g cur fz, X.heap[g]? = some (.cells cur 38 fz) → row ≠ some g) : OwnP Y B v qs := by
  refine World.ownsRow.kept h (row := row) hg ?_
  cases hv : v.ownBlock with
  | none => simp
  | some k =>
    obtain ⟨cur, fz, hk⟩ := h.type_of hv
    exact .inr fun e => hne k cur fz hk e.symm
theorem BackI.keep {w : World} {A : Option Addr} {ps : List Pm} {cap : Nat} {ks : List Pk} {X Y : World} {row : Option Nat} (h : BackI w A ps cap ks X) (hg : X.grownBy Y row) (hr : ∀ r, row = some r → w.heap.size ≤ r ∧ ∃ o : Obj, X.heap[r]? = some o ∧ o.isCells = false) : BackI w A ps cap ks Y := by
  have hne : ∀ b cur t fz, X.heap[b]? = some (.cells cur t fz) → row ≠ some b := fun b cur t fz hb e => by
    obtain ⟨_, o, h1, h2⟩ := hr b e
    rw [hb] at h1
    cases h1
    cases h2
  obtain ⟨v, qs, h1, h2, h3, h4⟩ := h.h
  exact ⟨⟨v, qs, h1.kept hg (fun e => hne _ _ _ _ h1 e.symm), h2.kept2 hg (fun g cur fz => hne g cur _ fz), fun y hy => ⟨(h3 y hy).1.kept hg (fun g cur fz => hne g cur _ fz), (h3 y hy).2⟩, h4⟩, h.s.kept hg (fun e => hne _ _ _ _ h.s e.symm),
    h.b.grown hg h.b.size fun k e => (hr k e).1⟩
theorem BackI.on {w : World} {A : Option Addr} {ps : List Pm} {cap : Nat} {ks : List Pk} {X Y : World} (h : BackI w A ps cap ks X) (hb : Below X.heap.size X Y) : BackI w A ps cap ks Y := by
  obtain ⟨v, qs, h1, h2, h3, h4⟩ := h.h
  exact ⟨⟨v, qs, (hb.block _ h1.lt).trans h1, h2.kept hb, fun y hy => ⟨(h3 y hy).1.on hb, (h3 y hy).2⟩, h4⟩, (hb.block _ h.s.lt).trans h.s, h.b.trans (hb.mono h.b.size)⟩
theorem back_own (w : World) (A : Option Addr) (ps : List Pm) (cap B : Nat) (hB : w.heap.size ≤ B) (f : List (Came ps) → List Pk) : OwnFrom B (fun ys W => BackI w A ps cap (f ys) W) :=
  fun s X Y row h hg hr => h.keep hg fun r e => ⟨Nat.le_trans hB (hr r e).1, (hr r e).2⟩
end Go.Proofs.YtaepfahpbnpeiaaGreatDoor
