
/- A row of hunks that a call makes: the row, and the hunks' lines. -/
import Derived.Test.YtmffmhadimeplaaDHunk
import Derived.Test.YtmffmhadimeplaaDiffSpec
namespace Go.Proofs.Ytmffmhadimeplaa
open Go.RowKit
set_option linter.unusedVariables false

structure HRow (w : World) (B : Nat) (v : Value) (ks : List Hm) : Prop where
  own : OwnH w B v ks
  ok : ∀ x ∈ ks, x.Ok w w.heap.size ∧ (Typed w x.a1 x.old ∧ Typed w x.a2 x.new) ∧ 0 ≤ x.at_
theorem HRow.nil (w : World) (B : Nat) : HRow w B (.slice none 0 0) [] := ⟨OwnH.nil w B, fun x hx => by cases hx⟩
theorem Typed.on {w w' : World} {A : Option Addr} {ls : List (List UInt8)} (t : Typed w A ls) (hb : Below w.heap.size w w') : Typed w' A ls := t.grown (below_none hb) fun g e => by cases e
theorem HRow.on {w w' : World} {B : Nat} {v : Value} {ks : List Hm} (h : HRow w B v ks) (hb : Below w.heap.size w w') : HRow w' B v ks :=
  ⟨h.own.kept (below_none hb) (fun g e => by cases e), fun x hx => by
    obtain ⟨h1, ⟨h2, h3⟩, h4⟩ := h.ok x hx
    exact ⟨h1.on hb, ⟨h2.on hb, h3.on hb⟩, h4⟩⟩
theorem HRow.push {w w' : World} {B : Nat} {v v' : Value} {ks : List Hm} {x : Hm} (h : HRow w B v ks) (hx : x.Ok w w.heap.size ∧ (Typed w x.a1 x.old ∧ Typed w x.a2 x.new) ∧ 0 ≤ x.at_) (ho : OwnH w' B v' (ks ++ [x])) (hg : w.grownBy w' v.ownBlock) : HRow w' B v' (ks ++ [x]) := by
  have hrow : ∀ g, v.ownBlock = some g → ∃ B v hs, OwnH w B v hs ∧ v.ownBlock = some g := fun g e => ⟨_, _, _, h.own, e⟩
  refine ⟨ho, fun y hy => ?_⟩
  have hy' : y.Ok w w.heap.size ∧ (Typed w y.a1 y.old ∧ Typed w y.a2 y.new) ∧ 0 ≤ y.at_ := by
    rcases List.mem_append.1 hy with hy | hy
    · exact h.ok y hy
    · simp only [List.mem_singleton] at hy
      subst hy
      exact hx
  obtain ⟨o1, ⟨t1, t2⟩, p⟩ := hy'
  exact ⟨⟨(o1.old.typedGrown t1 hg hrow).more hg.size, (o1.new.typedGrown t2 hg hrow).more hg.size, o1.r1, o1.r2, o1.lo, o1.hi, o1.n1, o1.n2⟩, ⟨t1.grown hg fun g e => .inr (.inl (hrow g e)), t2.grown hg fun g e => .inr (.inl (hrow g e))⟩, p⟩
theorem HRow.hks {w : World} {B : Nat} {v : Value} {ks : List Hm} (h : HRow w B v ks) : ∃ A cap, v = .slice A (List.length (α := Hm) ks) cap ∧ Hks w w.heap.size A ks ∧ Room A ks.length cap := h.own.hks fun x hx => (h.ok x hx).1
theorem HRow.lt {w : World} {B : Nat} {v : Value} {ks : List Hm} (h : HRow w B v ks) : ∀ q, v.ownBlock = some q → q < w.heap.size := fun q hq => (World.ownsRow.lt h.own q hq).2
theorem below_hrow {w0 w w' : World} {B : Nat} {v : Value} {ks : List Hm} (hb : Below B w0 w) (h : HRow w B v ks) (hg : w.grownBy w' v.ownBlock) (hB : B ≤ w0.heap.size) : Below B w0 w' :=
  hb.grown hg (Nat.le_trans hB hb.size) fun k hk => h.own.lt hk
theorem HunkAt.ne_hrow {w : World} {g B : Nat} {v : Value} {ks : List Hm} {x : Hm} (h : HRow w B v ks) (k : HunkAt w g x) (hlt : g < B) : v.ownBlock ≠ some g := fun e => by
  have := h.own.lt e
  omega
end Go.Proofs.Ytmffmhadimeplaa
