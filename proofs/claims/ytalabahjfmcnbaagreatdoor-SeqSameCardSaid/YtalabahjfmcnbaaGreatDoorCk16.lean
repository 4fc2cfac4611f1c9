/- What a call keeps while it writes rows and variables of its own. A range over slices.Backward of a row of steps, its places told. A region that draws its order of evaluation, in a round of a range over a function: the walk outside of rounds serves. Package commute's Pair, Can, Apart, Touches. -/
import Derived.BigQuiet
import Derived.Deep.QuietTactic
import Derived.Handy
import Derived.Laws.Cover1
import Derived.Sort.OwnSorted
import Derived.Deep.RegionHeld3
import Derived.Deep.DrawnRows
import Derived.Deep.RegionLaw
import Derived.Test.YtalabahjfmcnbaaGreatDoorShelf
import Derived.RangeFuncBox
import Derived.RangeFuncNested
import Derived.Deep.RegionHeld
import Derived.RangeFuncLeaves
import Derived.Shelf.Abstract
import Derived.WalkKit
import Derived.OwnWalkIn
import Derived.TacticsInMore
import Derived.LoopNIn
import Derived.LoopIn
import Derived.Maps.AppendAt
import Derived.Test.YtalabahjfmcnbaaGreatDoorProg
import Derived.OrdersIn
import Derived.RangeFuncCalls
import Derived.RegionTactic
import Derived.BigRegion
import Derived.Test.YtalabahjfmcnbaaGreatDoorCk15
namespace Go.Proofs.YtalabahjfmcnbaaGreatDoor
open Go.RowKit
set_option linter.unusedVariables false

/-- What lay below n₀, and each block of strings, lies as it lay. -/
structure Chg (n₀ : Nat) (W W' : World) : Prop where
  os : W'.os = W.os
  tape : W'.tape = W.tape
  output : W'.output = W.output
  size : W.heap.size ≤ W'.heap.size
  block : ∀ k, k < W.heap.size → W'.heap[k]? = W.heap[k]? ∨ (n₀ ≤ k ∧ ∀ cur fz, W.heap[k]? ≠ some (.cells cur 9 fz))
section
variable {n₀ : Nat} {W V U : World}
theorem Chg.refl (n₀ : Nat) (W : World) : Chg n₀ W W := ⟨rfl, rfl, rfl, Nat.le_refl _, fun _ _ => .inl rfl⟩
theorem Chg.trans (h : Chg n₀ W V) (k : Chg n₀ V U) : Chg n₀ W U :=
  ⟨k.os.trans h.os, k.tape.trans h.tape, k.output.trans h.output, Nat.le_trans h.size k.size, fun i hi => by
    rcases h.block i hi with h1 | h1
    · rcases k.block i (Nat.lt_of_lt_of_le hi h.size) with h2 | ⟨h2, h3⟩
      · exact .inl (h2.trans h1)
      · exact .inr ⟨h2, fun cur fz e => h3 cur fz (h1.trans e)⟩
    · exact .inr h1⟩
theorem Chg.of_below (hb : Below W.heap.size W V) : Chg n₀ W V := ⟨hb.os, hb.tape, hb.output, hb.size, fun k hk => .inl (hb.block k hk)⟩
theorem Chg.of_grown {row : Option Nat} (hg : W.grownBy V row) (hr : ∀ g, row = some g → n₀ ≤ g ∧ ∀ cur fz, W.heap[g]? ≠ some (.cells cur 9 fz)) : Chg n₀ W V :=
  ⟨hg.os, hg.tape, hg.output, hg.size, fun k hk => by
    by_cases e : row = some k
    · exact .inr (hr k e)
    · exact .inl (hg.block k hk (fun h => e h.symm))⟩
theorem Chg.below (h : Chg n₀ W V) (hn : n₀ ≤ W.heap.size) : Below n₀ W V :=
  ⟨h.os, h.tape, h.output, h.size, fun k hk => (h.block k (by omega)).elim id fun e => by omega⟩
end
/-- A step's lines lie below n₀, or in blocks of strings. -/
def Pm.Good (z : Pm) (n₀ : Nat) (W : World) : Prop := z.Ok W n₀ ∨ z.Sep W
section
variable {n₀ : Nat} {W V : World} {z : Pm}
theorem Pm.Good.ok (h : z.Good n₀ W) (hn : n₀ ≤ W.heap.size) : z.Ok W W.heap.size := h.elim (fun k => k.more hn) (fun k => k.1)
theorem sep_chg (h : z.Sep W) (hc : Chg n₀ W V) : z.Sep V := by
  have s : ∀ {A : Option Addr} {ls : List (List UInt8)}, StrBlk W A ls → Strs W W.heap.size A (toBs ls) → StrBlk V A ls ∧ Strs V V.heap.size A (toBs ls) := fun {A ls} hb hs => by
    have hk : ∀ {b : Nat} {cur : Array Value} {fz : Nat × Nat}, W.heap[b]? = some (.cells cur 9 fz) → V.heap[b]? = W.heap[b]? := fun {b cur fz} h => by
      rcases hc.block b (Array.getElem?_eq_some_iff.1 h).1 with e | ⟨_, e⟩
      · exact e
      · exact absurd h (e cur fz)
    refine ⟨fun hp => ?_, fun hp => ?_⟩
    · obtain ⟨b, off, cur, fz, e, h⟩ := hb hp
      exact ⟨b, off, cur, fz, e, (hk h).trans h⟩
    · obtain ⟨b, off, e, hlt, hcc⟩ := hs hp
      obtain ⟨b2, off2, cur, fz, e2, h⟩ := hb (by rw [toBs_len] at hp; exact hp)
      rw [e] at e2
      simp only [Option.some.injEq, Addr.mk.injEq] at e2
      obtain ⟨rfl, _, _⟩ := e2
      refine ⟨b, off, e, Nat.lt_of_lt_of_le hlt hc.size, fun j hj => ?_⟩
      have h1 := hcc j hj
      unfold World.cell? at h1 ⊢
      rw [hk h]
      exact h1
  obtain ⟨ok, b1, b2⟩ := h
  obtain ⟨c1, d1⟩ := s b1 ok.h.old
  obtain ⟨c2, d2⟩ := s b2 ok.h.new
  exact ⟨⟨⟨d1, d2, ok.h.r1, ok.h.r2, ok.h.lo, ok.h.hi, ok.h.n1, ok.h.n2⟩, ok.p, ok.q, ok.lo, ok.hi⟩, c1, c2⟩
theorem Pm.Good.go (h : z.Good n₀ W) (hn : n₀ ≤ W.heap.size) (hc : Chg n₀ W V) : z.Good n₀ V := h.imp (fun k => k.below (hc.below hn)) (fun k => sep_chg k hc)
end
theorem OwnP.moved {W V : World} {B : Nat} {v : Value} {rs : List Pm} (h : OwnP W B v rs) (hb : ∀ g, v.ownBlock = some g → V.heap[g]? = W.heap[g]?) : OwnP V B v rs :=
  ⟨h.1, h.2.imp id fun ⟨g, cap, cur, he, hB, hg, r⟩ => ⟨g, cap, cur, he, hB, (hb g (by rw [he]; rfl)).trans hg, r⟩⟩
theorem OwnP.lower1 {w : World} {B C : Nat} {v : Value} {rs : List Pm} (h : OwnP w B v rs) (hC : C ≤ B) : OwnP w C v rs :=
  ⟨h.1, h.2.elim .inl fun ⟨g, cap, cur, he, hb, r⟩ => .inr ⟨g, cap, cur, he, Nat.le_trans hC hb, r⟩⟩
/-- A row that came in, or that the call made. -/
def RowG (n₀ : Nat) (W : World) (A : Option Addr) (n c : Nat) (rs : List Pm) : Prop :=
  n = rs.length ∧ Room A n c ∧ (∀ z ∈ rs, z.Good n₀ W) ∧ (Ps W n₀ A rs ∨ (0 < rs.length ∧ OwnP W (n₀ + 4) (.slice A n c) rs))
theorem own_addr {W : World} {B n c : Nat} {A : Option Addr} {rs : List Pm} (h : OwnP W B (.slice A n c) rs) (h0 : 0 < rs.length) : ∃ g, A = some ⟨g, 0, none⟩ ∧ B ≤ g ∧ g < W.heap.size ∧ ∃ cur, W.heap[g]? = some (.cells cur 33 (0, 0)) := by
  rcases h.2 with ⟨_, he⟩ | ⟨g, cap, cur, he, hB, hg, _⟩
  · omega
  · simp only [Value.slice.injEq] at he
    exact ⟨g, he.1, hB, (Array.getElem?_eq_some_iff.1 hg).1, cur, hg⟩
theorem RowG.go {n₀ : Nat} {W V : World} {A : Option Addr} {n c : Nat} {rs : List Pm} (h : RowG n₀ W A n c rs) (hn : n₀ ≤ W.heap.size) (hc : Chg n₀ W V) (hb : ∀ g, 0 < n → A = some ⟨g, 0, none⟩ → n₀ + 4 ≤ g → (∃ cur, W.heap[g]? = some (.cells cur 33 (0, 0))) → V.heap[g]? = W.heap[g]?) : RowG n₀ V A n c rs := by
  refine ⟨h.1, h.2.1, fun z hz => (h.2.2.1 z hz).go hn hc, h.2.2.2.imp (fun k => k.below (hc.below hn)) fun k => ⟨k.1, k.2.moved fun g e => ?_⟩⟩
  obtain ⟨g2, rfl, h1, h2, h3⟩ := own_addr k.2 k.1
  obtain rfl : g2 = g := by simpa [Value.ownBlock] using e
  exact hb g2 (by rw [h.1]; exact k.1) rfl h1 h3
theorem RowG.row {n₀ : Nat} {W : World} {A : Option Addr} {n c : Nat} {rs : List Pm} (h : RowG n₀ W A n c rs) (hn : n₀ ≤ W.heap.size) : RowW W A n c rs := by
  have hok : ∀ z ∈ rs, z.Ok W W.heap.size := fun z hz => (h.2.2.1 z hz).ok hn
  rcases h.2.2.2 with k | k
  · exact ⟨h.1, k.more hn, h.2.1, hok⟩
  · exact RowB.of_own k.2 (Nat.le_refl _) hok
theorem RowG.of_old {w W : World} {A : Option Addr} {n c : Nat} {rs : List Pm} (h : RowW w A n c rs) (hb : Below w.heap.size w W) : RowG w.heap.size W A n c rs :=
  ⟨h.len, h.room, fun z hz => .inl ((h.ok z hz).below hb), .inl (h.at_.below hb)⟩
theorem RowG.of_own {n₀ : Nat} {W : World} {A : Option Addr} {n c : Nat} {rs : List Pm} (h : OwnP W (n₀ + 4) (.slice A n c) rs) (hg : ∀ z ∈ rs, z.Good n₀ W) : RowG n₀ W A n c rs := by
  obtain ⟨h1, h2, h3⟩ := h.flat
  refine ⟨h1, ⟨fun e => ?_, h2⟩, hg, ?_⟩
  · subst e
    rcases h.2 with ⟨he, _⟩ | ⟨g, cap, cur, he, _⟩
    · simp only [Value.slice.injEq] at he
      exact he.2.2
    · cases he
  · rcases Nat.eq_zero_or_pos rs.length with h0 | h0
    · obtain rfl := List.length_eq_zero_iff.1 h0
      exact .inl Ps.nil
    · exact .inr ⟨h0, h⟩
theorem RowG.lt {n₀ : Nat} {W : World} {A : Option Addr} {n c : Nat} {rs : List Pm} (h : RowG n₀ W A n c rs) (hn : n₀ ≤ W.heap.size) (h0 : 0 < n) : ∀ ad, A = some ad → ad.block < W.heap.size := by
  intro ad e
  rw [h.1] at h0
  rcases h.2.2.2 with k | k
  · obtain ⟨b, off, e2, hb, _⟩ := k.at_ h0
    rw [e] at e2
    cases e2
    exact Nat.lt_of_lt_of_le hb hn
  · obtain ⟨g, e2, _, h2, _⟩ := own_addr k.2 k.1
    rw [e] at e2
    cases e2
    exact h2

/-- What the range's rounds keep: the three variables, the row that is made, the row that goes ahead. -/
structure TurnI (w W : World) (m : Nat) (A : Option Addr) (cap k : Nat) (s : Int × List Pk × List Pk) : Prop where
  a : ∃ (A1 : Option Addr) (n1 c1 : Nat) (rs : List Pm), Boxed W w.heap.size 22 (.slice A1 n1 c1) ∧ RowG w.heap.size W A1 n1 c1 rs ∧ pkeys rs = s.2.1 ∧ (∀ z ∈ rs, LtK z.key) ∧ rs.length ≤ 500 ∧ (0 < k → ∀ z ∈ rs, z.Sep W)
  b : Boxed W (w.heap.size + 1) 22 (.slice (some ⟨w.heap.size + 3, 0, none⟩) m m)
  c : Boxed W (w.heap.size + 2) 25 (.int .i64 0)
  d : ∃ vs, OwnP W w.heap.size (.slice (some ⟨w.heap.size + 3, 0, none⟩) m m) vs ∧ pkeys vs = s.2.2 ∧ ∀ z ∈ vs, z.Good w.heap.size W
  e : s.1 = 0
  s : Boxed W (w.heap.size + 4) 22 (.slice A m cap)
  f : Below w.heap.size w W
/-- Whatever else is laid or turned. -/
theorem TurnI.go {w W V : World} {m cap k0 : Nat} {A : Option Addr} {s : Int × List Pk × List Pk} (h : TurnI w W m A cap k0 s) (hc : Chg w.heap.size W V) (hb : ∀ (k : Nat) (cur : Array Value) (t : TypeId) (fz : Nat × Nat), W.heap[k]? = some (Obj.cells cur t fz) → V.heap[k]? = W.heap[k]?) : TurnI w V m A cap k0 s := by
  have hn := h.f.size
  obtain ⟨A1, n1, c1, rs, a1, a2, a4, a5, a6, a7⟩ := h.a
  obtain ⟨vs, d1, d2, d3⟩ := h.d
  refine ⟨⟨A1, n1, c1, rs, (hb _ _ _ _ a1).trans a1, a2.go hn hc fun g _ _ _ e => ?_, a4, a5, a6, fun h0 z hz => sep_chg (a7 h0 z hz) hc⟩, (hb _ _ _ _ h.b).trans h.b, (hb _ _ _ _ h.c).trans h.c, ⟨vs, d1.moved fun g e => ?_, d2, fun z hz => (d3 z hz).go hn hc⟩, h.e, (hb _ _ _ _ h.s).trans h.s, h.f.trans (hc.below hn)⟩
  · obtain ⟨cur, hh⟩ := e
    exact hb _ _ _ _ hh
  · obtain ⟨cur, fz, hh⟩ := d1.type_of e
    exact hb _ _ _ _ hh
theorem TurnI.on {w W V : World} {m cap k0 : Nat} {A : Option Addr} {s : Int × List Pk × List Pk} (h : TurnI w W m A cap k0 s) (hb : Below W.heap.size W V) : TurnI w V m A cap k0 s :=
  h.go (Chg.of_below hb) fun k cur t fz e => hb.block k (Array.getElem?_eq_some_iff.1 e).1
theorem turn_own (w : World) (m : Nat) (A : Option Addr) (cap B : Nat) (hB : w.heap.size ≤ B) {β : Type} (q : β → Nat) (f : β → Int × List Pk × List Pk) : OwnFrom B (fun ys W => TurnI w W m A cap (q ys) (f ys)) := by
  intro s X Y row h hg hr
  refine h.go (Chg.of_grown hg fun r e => ⟨Nat.le_trans hB (hr r e).1, fun cur fz he => ?_⟩) fun k cur t fz he => hg.block k (Array.getElem?_eq_some_iff.1 he).1 fun e => ?_
  · obtain ⟨o, h1, h2⟩ := (hr r e).2
    rw [he] at h1
    cases h1
    cases h2
  · obtain ⟨o, h1, h2⟩ := (hr k e.symm).2
    rw [he] at h1
    cases h1
    cases h2
/-- A round has left: an error. -/
structure TurnX (w W : World) (s : Int × List Pk × List Pk) : Prop where
  h : ∃ v1 v2, Boxed W w.heap.size 22 v1 ∧ Boxed W (w.heap.size + 1) 22 v2
  c : Boxed W (w.heap.size + 2) 25 (.int .i64 s.1)
  e : s.1 ≠ 0
  f : Below w.heap.size w W
theorem turnx_own (w : World) (B : Nat) (hB : w.heap.size ≤ B) {β : Type} (f : β → Int × List Pk × List Pk) (p : Prop) : OwnFrom B (fun ys W => p ∧ TurnX w W (f ys)) := by
  intro s X Y row ⟨hp, h⟩ hg hr
  have hb : ∀ (k : Nat) (cur : Array Value) (t : TypeId) (fz : Nat × Nat), X.heap[k]? = some (Obj.cells cur t fz) → Y.heap[k]? = X.heap[k]? := fun k cur t fz he => hg.block k (Array.getElem?_eq_some_iff.1 he).1 fun e => by
    obtain ⟨o, h1, h2⟩ := (hr k e.symm).2
    rw [he] at h1
    cases h1
    cases h2
  obtain ⟨v1, v2, h1, h2⟩ := h.h
  exact ⟨hp, ⟨v1, v2, (hb _ _ _ _ h1).trans h1, (hb _ _ _ _ h2).trans h2⟩, (hb _ _ _ _ h.c).trans h.c, h.e, h.f.grown hg h.f.size fun k e => Nat.le_trans hB (hr k e).1⟩
/-- A round has begun: the step of place i lies in a block that the row ahead is not in. -/
def RoundA (w W : World) (x : Pm) (Bx : Nat) : Prop := w.heap.size + 4 < Bx ∧ PrimAt W Bx x ∧ ∀ A1 n1 c1, Boxed W w.heap.size 22 (.slice A1 n1 c1) → 0 < n1 → ∀ ad, A1 = some ad → ad.block ≠ Bx
theorem RoundA.go {w X Y : World} {x : Pm} {Bx B : Nat} {row : Option Nat} (h : RoundA w X x Bx) (hB : w.heap.size < B) (hg : X.grownBy Y row) (hr : ∀ r, row = some r → B ≤ r ∧ ∃ o : Obj, X.heap[r]? = some o ∧ o.isCells = false) : RoundA w Y x Bx := by
  refine ⟨h.1, (hg.block Bx h.2.1.lt fun e => ?_).trans h.2.1, fun A1 n1 c1 hb => h.2.2 A1 n1 c1 ((hg.block _ (Nat.lt_trans (Nat.lt_of_le_of_lt (Nat.le_add_right _ 4) h.1) h.2.1.lt) fun e => ?_).symm.trans hb)⟩
  · obtain ⟨_, o, h4, h5⟩ := hr Bx e.symm
    rw [show X.heap[Bx]? = _ from h.2.1] at h4
    cases h4
    cases h5
  · have := (hr _ e.symm).1
    omega
end Go.Proofs.YtalabahjfmcnbaaGreatDoor
namespace Go.Proofs.YtalabahjfmcnbaaGreatDoor
open Go.RowKit Go.Shelf
set_option linter.unusedVariables false

attribute [local go_sem] Oper.semAt_some

/-- What a round keeps: what lay below n₀, and block b. -/
def KpB (n₀ b : Nat) (W W' : World) : Prop := Below n₀ W W' ∧ (b < W.heap.size → W'.heap[b]? = W.heap[b]?)
theorem KpB.trans {n₀ b : Nat} {X Y Z : World} (h : KpB n₀ b X Y) (k : KpB n₀ b Y Z) : KpB n₀ b X Z :=
  ⟨h.1.trans k.1, fun hb => (k.2 (by
    rcases Nat.lt_or_ge b Y.heap.size with h1 | h1
    · exact h1
    · have h2 := h.2 hb
      rw [Array.getElem?_eq_none h1, Array.getElem?_eq_getElem hb] at h2
      cases h2)).trans (h.2 hb)⟩
theorem kpB_put {n₀ b : Nat} {w : World} (hn : n₀ ≤ w.heap.size) (hb : b < w.heap.size) (W : World) (l : Nat) (o o' : Obj) (hl : w.heap.size ≤ l) (h : W.heap[l]? = some o) (h1 : o.isCells = false) (h2 : o.isWalk = false) : KpB n₀ b W (W.putObj l o') :=
  ⟨belowK_b hn W l o o' hl h h1 h2, fun hlt => (grownBy_putObj' W l o').block b hlt (fun e => by cases e; omega)⟩
theorem KpB.refl (n₀ b : Nat) (W : World) : KpB n₀ b W W := ⟨Below.refl _ _, fun _ => rfl⟩

/-- What comes to a round: a place of the row. -/
abbrev CameI (ps : List Pm) := { i : Nat // i < ps.length }
def CameI.cells {ps : List Pm} (x : CameI ps) : Array Value := #[.int .i64 (x.1 : Int), (ps[x.1]'x.2).val]

set_option maxRecDepth 100000 in
set_option maxHeartbeats 4000000 in
theorem sbackward1_in (F : Fence) (n : Nat) (hf : F.fn 68) (hro : F.round = none) (hn : 1 ≤ n) (l n₀ Bs cap : Nat) (A : Option Addr) (ps : List Pm) (hlen : ps.length ≤ 100000) (J Jx : List (CameI ps) → World → Prop)
    (hY : ∀ pre x W, J pre W → pre.length < ps.length → YieldAt F (n - 1) Tryz.prog l x.cells W fun e W' =>
      (e = .returned (.bool true) ∧ J (pre ++ [x]) W' ∧ KpB n₀ Bs W W') ∨ (e = .returned (.bool false) ∧ Jx (pre ++ [x]) W'))
    (W : World) (hb : Boxed W Bs 22 (.slice A ps.length cap)) (hs : Ps W n₀ A ps) (h0 : J [] W) :
    CallsIn F n Tryz.prog 68 #[.func (.yield l) #[] #[], .pointer (some ⟨Bs, 0, none⟩)] W fun e W' => (∃ v, e = .returned v) ∧
      ((∃ ys, (ys.map fun x => x.1) = ((List.range ps.length).drop 0).reverse ∧ J ys W') ∨ (∃ pre, (∃ k, k ≤ ps.length ∧ (pre.map fun x => x.1) = ((List.range ps.length).drop k).reverse) ∧ Jx pre W')) := by
  have hc := hb.cell
  refine callsIn_of_wp Tryz.func68 rfl hf ?_ hro
  simp only [Tryz.ntmps68, List.size_toArray, List.length_cons, List.length_nil, Nat.reduceAdd, Nat.reduceSub, Array.replicate_succ, Array.replicate_zero, List.push_toArray, List.append_toArray, List.nil_append, List.cons_append]
  gi_wp2
  gi_loopw [3] (fun i wr => ∃ (k : Nat) (pre : List (CameI ps)), k ≤ ps.length ∧ i = .int .i64 ((k : Int) - 1) ∧ Hid ((pre.map fun x => x.1) = ((List.range ps.length).drop k).reverse ∧ pre.length = ps.length - k) ∧ J pre wr ∧ Hid (KpB n₀ Bs W wr))
    (fun i _ => (intOf i + 1).toNat)
  case atStart => exact ⟨ps.length, [], Nat.le_refl _, rfl, ⟨by simp, by simp⟩, h0, KpB.refl _ _ _⟩
  case round =>
    obtain ⟨k, pre, hk, rfl, hpre, hJ, hkp⟩ := hrel
    have hbx : Boxed wr Bs 22 (.slice A ps.length cap) := (hkp.out.2 hb.lt).trans hb
    have hcx := hbx.cell
    cases k with
    | zero =>
      gi_wp2
      go_end0
      refine ⟨⟨_, rfl⟩, .inl ⟨pre, ?_, hJ⟩⟩
      exact hpre.out.1
    | succ k =>
      have hlt : k < ps.length := by omega
      obtain ⟨b, off, e, bl, d0, d1, d2, d3, d4, d5⟩ := (hs.below hkp.out.1).get hlt
      subst e
      obtain ⟨fn, tmps, assign, body, hy, hR⟩ := hY pre ⟨k, hlt⟩ wr hJ (by rw [hpre.out.2]; omega)
      have hnew : Hid (((pre ++ [(⟨k, hlt⟩ : CameI ps)]).map fun x => x.1) = ((List.range ps.length).drop k).reverse ∧ (pre ++ [(⟨k, hlt⟩ : CameI ps)]).length = ps.length - k) := by
        refine ⟨?_, by rw [List.length_append, hpre.out.2]; simp; omega⟩
        rw [List.map_append, hpre.out.1, List.drop_eq_getElem_cons (i := k) (show k < (List.range ps.length).length by simpa using hlt), List.reverse_cons]
        simp
      unfold CameI.cells Pm.val at hy
      dsimp only at hy
      have z0 : ((k + 1 : Nat) : Int) - 1 = (k : Int) := by omega
      have z1 : (0 : Int) ≤ (k : Int) := by omega
      have z2 : (k : Int) < (ps.length : Int) := by omega
      rw [z0]
      gi_wp2
      refine hR.mono ?_
      rintro e W3 (⟨rfl, hJ3, hk3⟩ | ⟨rfl, hJx3⟩)
      · gi_wp2
        go_roundw
        case rel => exact ⟨k, _, by omega, by go_num, hnew, hJ3, hkp.out.trans hk3⟩
        case measure => simp [intOf]
      · gi_wp2
        refine bodyPost_ret (results_none rfl _ _ _) rfl ?_
        exact ⟨⟨_, rfl⟩, .inr ⟨_, ⟨k, by omega, hnew.out.1⟩, hJx3⟩⟩

set_option maxRecDepth 100000 in
set_option maxHeartbeats 1000000 in
theorem sbackward_in (F : Fence) (n : Nat) (hf : F.fn 44) (hro : F.round = none) (A : Option Addr) (len cap : Nat) (w : World) :
    CallsIn F n Tryz.prog 44 #[.slice A len cap] w fun e w' => e = .returned (.func (.func 68) #[] #[.pointer (some ⟨w.heap.size, 0, none⟩)]) ∧ w' = w.alloc (.cells #[.slice A len cap] 22) := by
  refine callsIn_of_wp Tryz.func44 rfl hf ?_ hro
  simp only [Tryz.ntmps44, List.size_toArray, List.length_cons, List.length_nil, Nat.reduceAdd, Nat.reduceSub, Array.replicate_succ, Array.replicate_zero, List.push_toArray, List.append_toArray, List.nil_append, List.cons_append]
  gi_wp2
  go_ret
  exact ⟨rfl, rfl⟩
theorem sbackward_stops (F : Fence) (n : Nat) (hf : F.fn 68) (hro : F.round = none) (hn : 1 ≤ n) (n₀ Bs cap : Nat) (A : Option Addr) (ps : List Pm) (hlen : ps.length ≤ 100000) (w : World) (hn₀ : n₀ ≤ w.heap.size) (hb : Boxed w Bs 22 (.slice A ps.length cap)) (hs : Ps w n₀ A ps) :
    SeqStopsK F n Tryz.prog 68 #[.pointer (some ⟨Bs, 0, none⟩)] (CameI.cells (ps := ps)) (KpB n₀ Bs) (fun ys => (ys.map fun x => x.1) = ((List.range ps.length).drop 0).reverse) (fun pre => ∃ k, k ≤ ps.length ∧ (pre.map fun x => x.1) = ((List.range ps.length).drop k).reverse) ps.length w := fun l J Jx W hW _ _ hY h0 =>
  sbackward1_in F n hf hro hn l n₀ Bs cap A ps hlen J Jx hY W ((hW.block Bs hb.lt).trans hb) (hs.below (hW.mono hn₀)) h0

end Go.Proofs.YtalabahjfmcnbaaGreatDoor
namespace Go.Proofs.YtalabahjfmcnbaaGreatDoor
set_option linter.unusedVariables false

/-- No operation is a 'defer' statement. -/
def noDefer (ops : Array Oper) : Bool := ops.all fun o => match o.op with | .defer _ => false | _ => true
theorem noDefer_at {ops : Array Oper} (h : noDefer ops = true) {i : Nat} {o : Oper} (ho : ops[i]? = some o) : ∀ c, o.op ≠ .defer c := by
  intro c e
  obtain ⟨hi, rfl⟩ := Array.getElem?_eq_some_iff.1 ho
  have h1 := (Array.all_eq_true.1 h) i hi
  rw [e] at h1
  cases h1
theorem rows_round {P : Program} {row : String} {args : Array Value} {w : World} {R : Value → World → Prop} (l n : Nat) (h : Rows P row args w R) : RowsIn (Fence.wide.inRound l) n P row args w R :=
  fun c cs _ => let ⟨v, w', r, s⟩ := h c cs; ⟨v, w', r, stepsIn_wide.2 s⟩
theorem wpOp_round {P : Program} {ops : Array Oper} {Q : Exit → Act → World → Prop} (hd : noDefer ops = true) (hQ : ∀ a w, ¬ Q .outgrown a w) (l n i : Nat) {K : Act → World → Prop} {a : Act} {w : World} (h : wpOp P ops Q i K a w) :
    wpOpIn (Fence.wide.inRound l) n P ops Q i K a w := by
  unfold wpOp at h
  unfold wpOpIn
  split
  · rename_i ho
    simpa [ho] using h
  · rename_i o ho
    simp only [ho] at h
    split
    · rename_i hw
      simp only [hw, if_true] at h
      rcases h with h | ⟨_, a1, w1, h⟩
      · refine ⟨fun _ _ => trivial, ?_⟩
        rw [Oper.semAt_eq _ _ _ (noDefer_at hd ho)]
        unfold Oper.wp at h
        generalize (execOp a.eval o).run P w = r at *
        cases r with
        | ok x w' =>
          cases x <;> simp only [Oper.upon] at h <;> simp only [Oper.uponIn]
          case value => exact h
          case skip => exact h
          case defer => exact h
          case enter f args =>
            refine ⟨(fun e => by cases e), CallsIn.inRound l (callsIn_wide.2 ?_)⟩
            exact h
          case row row args => exact ⟨(fun e => by cases e), rows_round l _ h⟩
        | halt x w' =>
          cases x <;> simp only [Oper.upon] at h <;> simp only [Oper.uponIn] <;> exact h
      · exact absurd h (hQ _ _)
    · rename_i hw
      simp only [hw, if_false, Bool.false_eq_true] at h
      exact ⟨fun _ _ => trivial, h⟩
theorem wpAny_round {P : Program} {md : Region.Mode} {ops : Array Oper} {Q : Exit → Act → World → Prop} (hd : noDefer ops = true) (hQ : ∀ a w, ¬ Q .outgrown a w) (l n : Nat) : ∀ (fuel : Nat) (listed : Array Bool) (a : Act) (w : World), wpAny P md ops Q fuel listed a w → wpAnyIn (Fence.wide.inRound l) n P md ops Q fuel listed a w
  | 0, _, _, _, h => h
  | fuel + 1, _, _, _, h => ⟨h.1, fun i hi => wpOpIn_mono (fun a w k => wpAny_round hd hQ l n fuel _ a w k) (wpOp_round hd hQ l n i (h.2 i hi))⟩
/-- What lies behind a region. -/
def onward (R : Act → World → Prop) : Exit → Act → World → Prop
  | .normal, a, w => R a w
  | _, _, _ => False
/-- The region's ways meet at R; what follows is walked once. -/
theorem wpIn_region_round {P : Program} {ops : Array Oper} {Q : Exit → Act → World → Prop} {id l n : Nat} {a : Act} {w : World} (hm : P.follows .mixedOrders = true) (hd : noDefer ops = true) (S : World → Prop) (R : Act → World → Prop) (hS : S w.drew)
    (first : S w.drew → wpAnyH P .any ops (onward R) S ops.size (Array.replicate ops.size false) a w.drew) (rest : ∀ a' w', R a' w' → Q .normal a' w') : (Code.region id ops true).wpIn (Fence.wide.inRound l) n P Q a w := by
  refine wpIn_mono (wpIn_region_any (Q := onward R) hm (wpAny_round hd (fun _ _ h => h) l n _ _ _ _ (wpAny_of_held _ _ _ _ (first hS)))) ?_
  intro e a' w' h
  cases e with
  | normal => exact rest _ _ h
  | exit id => exact h.elim
  | goto l => exact h.elim
  | ret => exact h.elim
  | panic ch => exact h.elim
  | outgrown => exact h.elim
end Go.Proofs.YtalabahjfmcnbaaGreatDoor
namespace Go.Proofs.YtalabahjfmcnbaaGreatDoor
open Go.RowKit
set_option linter.unusedVariables false

theorem pair_wrong {p q : Pk} (h : wrongP p q ≠ 0) : pairP p q = (wrongP p q, zeroP, zeroP) := by
  unfold wrongP at h ⊢
  unfold pairP
  by_cases hp : ckP p = 0
  · rw [if_pos hp] at h ⊢
    rw [if_neg (by simpa using hp), if_pos h]
  · rw [if_neg hp] at h ⊢
    rw [if_pos hp]
theorem wrong_right {p q : Pk} (h : wrongP p q = 0) : ckP p = 0 ∧ ckP q = 0 := by
  unfold wrongP at h
  by_cases hp : ckP p = 0
  · rw [if_pos hp] at h
    exact ⟨hp, h⟩
  · rw [if_neg hp] at h
    exact absurd h hp
theorem TwoLeft.draw {w w' : World} {k1 k2 : Pk} {v : Value} {e : Ending} (h : TwoLeft w k1 k2 v e w') : TwoLeft w k1 k2 v e w'.drew := by
  obtain ⟨y, z, rfl, h, hb⟩ := h
  have hd : Below w'.heap.size w' w'.drew := (Below.refl _ _).drew
  exact ⟨y, z, rfl, ⟨h.out.1.on hd, h.out.2.1.on hd, h.out.2.2⟩, hb.drew⟩
/-- What Pair hands back. -/
def pairLeft (w : World) (p q : Pk) : Ending → World → Prop := TwoLeft w (pairP p q).2.1 (pairP p q).2.2 (.int .i64 (pairP p q).1)
set_option maxHeartbeats 20000000 in
set_option maxRecDepth 100000 in
theorem cpair_any (x y : Pm) (w : World) (ox : x.Ok w w.heap.size) (oy : y.Ok w w.heap.size) (wx : WdK x.key) (wy : WdK y.key) (hT : Tabs w) :
    Calls Tryz.prog 45 #[x.val, y.val] w (pairLeft w x.key y.key) := by
  obtain ⟨n, hn⟩ : ∃ n, wrongP x.key y.key = n := ⟨_, rfl⟩
  have CW := Lib.hid (fun W (hb : Below w.heap.size w W) => cwrong_any x y W (ox.on hb) (oy.on hb) wx wy (Tabs.on hT hb) n hn)
  have CT := Lib.hid (fun (h0 : ckP x.key = 0) (k0 : ckP y.key = 0) W (hb : Below w.heap.size w W) => cturned_any x y W (ox.on hb) (oy.on hb) wx wy h0 k0)
  have HW : Hid ((n ≠ 0 → pairP x.key y.key = (n, zeroP, zeroP)) ∧ (n = 0 → (ckP x.key = 0 ∧ ckP y.key = 0) ∧ pairP x.key y.key = (if (turnP x.key y.key).isSome = true then 0 else 13, (turnP x.key y.key).getD (zeroP, zeroP)))) := by
    subst hn
    exact ⟨pair_wrong, fun h => ⟨wrong_right h, pair_turn (wrong_right h).1 (wrong_right h).2⟩⟩
  clear ox oy wx wy hT hn
  unfold pairLeft
  generalize pairP x.key y.key = pr at *
  generalize turnP x.key y.key = tn at *
  generalize ckP x.key = n1 at *
  generalize ckP y.key = n2 at *
  obtain ⟨kind, p, q, at_, a1, c1, old, a2, c2, new⟩ := x
  obtain ⟨kind2, p2, q2, at2, a3, c3, old2, a4, c4, new2⟩ := y
  unfold Pm.val at CW CT ⊢
  simp only [] at CW CT ⊢
  obtain ⟨hal, hx, hy, hg, hh⟩ := box4 w ⟨kind, p, q, at_, a1, c1, old, a2, c2, new⟩ ⟨kind2, p2, q2, at2, a3, c3, old2, a4, c4, new2⟩
  have e0 : ((((w.alloc (.cells (Pm.cells ⟨kind, p, q, at_, a1, c1, old, a2, c2, new⟩).toArray 33)).alloc (.cells (Pm.cells ⟨kind2, p2, q2, at2, a3, c3, old2, a4, c4, new2⟩).toArray 33)).alloc (.cells (Pm.cells ⟨0, ⟨#[]⟩, ⟨#[]⟩, 0, none, 0, [], none, 0, []⟩).toArray 33)).alloc (.cells (Pm.cells ⟨0, ⟨#[]⟩, ⟨#[]⟩, 0, none, 0, [], none, 0, []⟩).toArray 33)) = ((((w.alloc (.cells #[.int .i64 kind, .string p, .string q, .int .i64 at_, .slice a1 old.length c1, .slice a2 new.length c2] 33)).alloc (.cells #[.int .i64 kind2, .string p2, .string q2, .int .i64 at2, .slice a3 old2.length c3, .slice a4 new2.length c4] 33)).alloc (.cells #[.int .i64 0, .string ⟨#[]⟩, .string ⟨#[]⟩, .int .i64 0, .slice none 0 0, .slice none 0 0] 33)).alloc (.cells #[.int .i64 0, .string ⟨#[]⟩, .string ⟨#[]⟩, .int .i64 0, .slice none 0 0, .slice none 0 0] 33)) := rfl
  rw [e0] at hal hx hy hg hh
  have HX := Lib.hid hx
  have HY := Lib.hid hy
  have HG := Lib.hid hg
  have HH := Lib.hid hh
  have HA := Lib.hid hal
  clear hal hx hy hg hh e0
  have CW := Lib.hid (CW.out _ HA.out)
  by_cases h0 : n = 0
  · obtain ⟨⟨hc1, hc2⟩, hpr⟩ := HW.out.2 h0
    subst hpr; subst h0
    obtain ⟨cd, hcd⟩ : ∃ c : Int, (if tn.isSome = true then (0 : Int) else 13) = c := ⟨_, rfl⟩
    rw [hcd]
    have HCD := Lib.hid hcd
    have CT := Lib.hid (CT.out hc1 hc2)
    clear hcd
    clear HW hc1 hc2
    go_enter Tryz.func45, Tryz.ntmps45
    go_wp2_with fail
    generalize ((((w.alloc (.cells #[.int .i64 kind, .string p, .string q, .int .i64 at_, .slice a1 old.length c1, .slice a2 new.length c2] 33)).alloc (.cells #[.int .i64 kind2, .string p2, .string q2, .int .i64 at2, .slice a3 old2.length c3, .slice a4 new2.length c4] 33)).alloc (.cells #[.int .i64 0, .string ⟨#[]⟩, .string ⟨#[]⟩, .int .i64 0, .slice none 0 0, .slice none 0 0] 33)).alloc (.cells #[.int .i64 0, .string ⟨#[]⟩, .string ⟨#[]⟩, .int .i64 0, .slice none 0 0, .slice none 0 0] 33)) = wa at *
    refine CW.out.mono ?_
    rintro e wb ⟨rfl, hb⟩
    replace HX := Lib.hid (HX.out.on hb)
    replace HY := Lib.hid (HY.out.on hb)
    replace HG := Lib.hid (HG.out.on hb)
    replace HH := Lib.hid (HH.out.on hb)
    replace HA := Lib.hid (HA.out.trans (hb.mono HA.out.size))
    clear hb
    clear CW
    have b0 := HX.out.c0
    have b1 := HX.out.c1
    have b2 := HX.out.c2
    have b3 := HX.out.c3
    have b4 := HX.out.c4
    have b5 := HX.out.c5
    have d0 := HY.out.c0
    have d1 := HY.out.c1
    have d2 := HY.out.c2
    have d3 := HY.out.c3
    have d4 := HY.out.c4
    have d5 := HY.out.c5
    go_wp2_with fail
    clear b0 b1 b2 b3 b4 b5 d0 d1 d2 d3 d4 d5
    refine (CT.out wb HA.out).mono ?_
    rintro e wc ⟨y7, y8, rfl, hy, hb⟩
    replace HX := Lib.hid (HX.out.on hb)
    replace HY := Lib.hid (HY.out.on hb)
    replace HG := Lib.hid (HG.out.on hb)
    replace HH := Lib.hid (HH.out.on hb)
    replace HA := Lib.hid (HA.out.trans (hb.mono HA.out.size))
    clear hb
    have HS := Lib.hid hy.out
    obtain ⟨bl, b7, b8⟩ := box2 wc y7 y8
    have e1 : ((wc.alloc (.cells y7.cells.toArray 33)).alloc (.cells y8.cells.toArray 33)) = ((wc.alloc (.cells #[.int .i64 y7.kind, .string y7.p, .string y7.dst, .int .i64 y7.at_, .slice y7.a1 y7.old.length y7.c1, .slice y7.a2 y7.new.length y7.c2] 33)).alloc (.cells #[.int .i64 y8.kind, .string y8.p, .string y8.dst, .int .i64 y8.at_, .slice y8.a1 y8.old.length y8.c1, .slice y8.a2 y8.new.length y8.c2] 33)) := rfl
    rw [e1] at bl b7 b8
    have B7 := Lib.hid b7
    have B8 := Lib.hid b8
    have BL := Lib.hid bl
    have hsz : w.heap.size + 1 + 1 + 1 < wc.heap.size := HH.out.lt
    clear hy b7 b8 bl e1 CT HX HY
    cases tn with
    | none =>
      have hcd : cd = 13 := HCD.out.symm
      subst hcd
      have HG := Lib.hid (HG.out.on BL.out)
      have HH := Lib.hid (HH.out.on BL.out)
      have g0 := HG.out.c0
      have gf0 := HG.out.fz 0
      have h0 := HH.out.c0
      have hf0 := HH.out.fz 0
      have g1 := HG.out.c1
      have gf1 := HG.out.fz 1
      have h1 := HH.out.c1
      have hf1 := HH.out.fz 1
      have g2 := HG.out.c2
      have gf2 := HG.out.fz 2
      have h2 := HH.out.c2
      have hf2 := HH.out.fz 2
      have g3 := HG.out.c3
      have gf3 := HG.out.fz 3
      have h3 := HH.out.c3
      have hf3 := HH.out.fz 3
      have g4 := HG.out.c4
      have gf4 := HG.out.fz 4
      have h4 := HH.out.c4
      have hf4 := HH.out.fz 4
      have g5 := HG.out.c5
      have gf5 := HG.out.fz 5
      have h5 := HH.out.c5
      have hf5 := HH.out.fz 5
      have HTW := Lib.hid (two_set (w := w) (.int .i64 13) (HA.out.trans (BL.out.mono HA.out.size)) (show w.heap.size ≤ w.heap.size + 1 + 1 by omega) (show w.heap.size ≤ w.heap.size + 1 + 1 + 1 by omega) (show w.heap.size + 1 + 1 ≠ w.heap.size + 1 + 1 + 1 by omega) HG.out HH.out (sep_zero _) (sep_zero _) (rfl : _ = zeroP) (rfl : _ = zeroP))
      have HT1 := Lib.hid HTW.out.1
      have HT2 := Lib.hid HTW.out.2.1
      have HT3 := Lib.hid HTW.out.2.2
      clear HTW HS B7 B8 BL
      go_wp2
      (try simp only [Exit.inBlock, Exit.then])
      refine bodyPost_ret (ret_prim3 rfl _ _ _ _ ⟨0, ⟨#[]⟩, ⟨#[]⟩, 0, none, 0, [], none, 0, []⟩ ⟨0, ⟨#[]⟩, ⟨#[]⟩, 0, none, 0, [], none, 0, []⟩ _ rfl rfl rfl HT2.out HT3.out) rfl ?_
      exact HT1.out
    | some r =>
      have hcd : cd = 0 := HCD.out.symm
      subst hcd
      have HS7 := Lib.hid (HS.out.1.on BL.out)
      have HS8 := Lib.hid (HS.out.2.1.on BL.out)
      have K7 := Lib.hid HS.out.2.2.1
      have K8 := Lib.hid HS.out.2.2.2
      have HG := Lib.hid (HG.out.on BL.out)
      have HH := Lib.hid (HH.out.on BL.out)
      have HA2 := Lib.hid (HA.out.trans (BL.out.mono HA.out.size))
      go_wp2_with fail
      generalize ((wc.alloc (.cells #[.int .i64 y7.kind, .string y7.p, .string y7.dst, .int .i64 y7.at_, .slice y7.a1 y7.old.length y7.c1, .slice y7.a2 y7.new.length y7.c2] 33)).alloc (.cells #[.int .i64 y8.kind, .string y8.p, .string y8.dst, .int .i64 y8.at_, .slice y8.a1 y8.old.length y8.c1, .slice y8.a2 y8.new.length y8.c2] 33)) = wd at *
      obtain ⟨l0, l1, l2, l3, l4, l5, l6, l7, l8, l9, l10, l11⟩ := six_six B7.out B8.out
      have tg := HG.out
      have th := HH.out
      have HTW := Lib.hid (two_set (w := w) (.int .i64 0) HA2.out (show w.heap.size ≤ w.heap.size + 1 + 1 by omega) (show w.heap.size ≤ w.heap.size + 1 + 1 + 1 by omega) (show w.heap.size + 1 + 1 ≠ w.heap.size + 1 + 1 + 1 by omega) tg th HS7.out HS8.out K7.out K8.out)
      have HT1 := Lib.hid HTW.out.1.draw
      have HT2 := Lib.hid HTW.out.2.1.draw
      have HT3 := Lib.hid HTW.out.2.2.draw
      have g0 := tg.c0
      have gf0 := tg.fz 0
      have h0 := th.c0
      have hf0 := th.fz 0
      have g1 := tg.c1
      have gf1 := tg.fz 1
      have h1 := th.c1
      have hf1 := th.fz 1
      have g2 := tg.c2
      have gf2 := tg.fz 2
      have h2 := th.c2
      have hf2 := th.fz 2
      have g3 := tg.c3
      have gf3 := tg.fz 3
      have h3 := th.c3
      have hf3 := th.fz 3
      have g4 := tg.c4
      have gf4 := tg.fz 4
      have h4 := th.c4
      have hf4 := th.fz 4
      have g5 := tg.c5
      have gf5 := tg.fz 5
      have h5 := th.c5
      have hf5 := th.fz 5
      clear tg th HTW HS7 HS8 HS
      go_region
      all_goals
        clear l0 l1 l2 l3 l4 l5 l6 l7 l8 l9 l10 l11 g0 gf0 h0 hf0 g1 gf1 h1 hf1 g2 gf2 h2 hf2 g3 gf3 h3 hf3 g4 gf4 h4 hf4 g5 gf5 h5 hf5
        go_wp2
        (try simp only [Exit.inBlock, Exit.then])
        refine bodyPost_ret (ret_prim3 rfl _ _ _ _ y7 y8 _ rfl rfl rfl HT2.out HT3.out) rfl ?_
        exact HT1.out
  · have hpr := HW.out.1 h0
    subst hpr
    have hn : (n != 0) = true := by simpa using h0
    have hn2 : (n == 0) = false := by simpa using h0
    clear HW CT h0
    go_enter Tryz.func45, Tryz.ntmps45
    go_wp2_with fail
    generalize ((((w.alloc (.cells #[.int .i64 kind, .string p, .string q, .int .i64 at_, .slice a1 old.length c1, .slice a2 new.length c2] 33)).alloc (.cells #[.int .i64 kind2, .string p2, .string q2, .int .i64 at2, .slice a3 old2.length c3, .slice a4 new2.length c4] 33)).alloc (.cells #[.int .i64 0, .string ⟨#[]⟩, .string ⟨#[]⟩, .int .i64 0, .slice none 0 0, .slice none 0 0] 33)).alloc (.cells #[.int .i64 0, .string ⟨#[]⟩, .string ⟨#[]⟩, .int .i64 0, .slice none 0 0, .slice none 0 0] 33)) = wa at *
    refine CW.out.mono ?_
    rintro e wb ⟨rfl, hb⟩
    replace HX := Lib.hid (HX.out.on hb)
    replace HY := Lib.hid (HY.out.on hb)
    replace HG := Lib.hid (HG.out.on hb)
    replace HH := Lib.hid (HH.out.on hb)
    replace HA := Lib.hid (HA.out.trans (hb.mono HA.out.size))
    clear hb
    clear CW
    have g0 := HG.out.c0
    have gf0 := HG.out.fz 0
    have h0 := HH.out.c0
    have hf0 := HH.out.fz 0
    have g1 := HG.out.c1
    have gf1 := HG.out.fz 1
    have h1 := HH.out.c1
    have hf1 := HH.out.fz 1
    have g2 := HG.out.c2
    have gf2 := HG.out.fz 2
    have h2 := HH.out.c2
    have hf2 := HH.out.fz 2
    have g3 := HG.out.c3
    have gf3 := HG.out.fz 3
    have h3 := HH.out.c3
    have hf3 := HH.out.fz 3
    have g4 := HG.out.c4
    have gf4 := HG.out.fz 4
    have h4 := HH.out.c4
    have hf4 := HH.out.fz 4
    have g5 := HG.out.c5
    have gf5 := HG.out.fz 5
    have h5 := HH.out.c5
    have hf5 := HH.out.fz 5
    have HTW := Lib.hid (two_set (w := w) (.int .i64 n) HA.out (show w.heap.size ≤ w.heap.size + 1 + 1 by omega) (show w.heap.size ≤ w.heap.size + 1 + 1 + 1 by omega) (show w.heap.size + 1 + 1 ≠ w.heap.size + 1 + 1 + 1 by omega) HG.out HH.out (sep_zero _) (sep_zero _) (rfl : _ = zeroP) (rfl : _ = zeroP))
    have HT1 := Lib.hid HTW.out.1
    have HT2 := Lib.hid HTW.out.2.1
    have HT3 := Lib.hid HTW.out.2.2
    clear HTW
    go_wp2
    (try simp only [Exit.inBlock, Exit.then])
    refine bodyPost_ret (ret_prim3 rfl _ _ _ _ ⟨0, ⟨#[]⟩, ⟨#[]⟩, 0, none, 0, [], none, 0, []⟩ ⟨0, ⟨#[]⟩, ⟨#[]⟩, 0, none, 0, [], none, 0, []⟩ _ rfl rfl rfl HT2.out HT3.out) rfl ?_
    exact HT1.out

end Go.Proofs.YtalabahjfmcnbaaGreatDoor
