/- The reference's Past of layer 10. -/
import Derived.BigQuiet
import Derived.Deep.QuietTactic
import Derived.Handy
import Derived.Laws.Cover1
import Derived.Sort.OwnSorted
import Derived.Deep.RegionHeld3
import Derived.Deep.DrawnRows
import Derived.Deep.RegionLaw
import Derived.Test.YtalabahjfmcnbaaGreatDoorShelf
import Derived.WalkKit
import Derived.Deep.Cut
import Derived.Deep.CutRange
import Derived.Test.YtalabahjfmcnbaaGreatDoorCk13
namespace Go.Proofs.YtalabahjfmcnbaaGreatDoor
open Go.RowKit
set_option linter.unusedVariables false

/-- What Past's loop holds. -/
structure PastI (w wr : World) (B : Nat) (A1 : Option Addr) (n1 c1 : Nat) (rs : List Pm) (x : Pm) : Prop where
  own : OwnP wr (w.heap.size + 1 + 1) (.slice A1 n1 c1) rs
  oks : ∀ r ∈ rs, r.Ok wr B
  px : PrimAt wr w.heap.size x
  pz : PrimAt wr (w.heap.size + 1) ⟨0, ⟨#[]⟩, ⟨#[]⟩, 0, none, 0, [], none, 0, []⟩
  xok : x.Ok wr B
  lt : LtK x.key
  below : Below w.heap.size w wr
theorem PastI.on {w wr W : World} {B : Nat} {A1 : Option Addr} {n1 c1 : Nat} {rs : List Pm} {x : Pm} (h : PastI w wr B A1 n1 c1 rs x) (hB : B ≤ wr.heap.size) (hb : Below wr.heap.size wr W) : PastI w W B A1 n1 c1 rs x :=
  ⟨h.own.kept hb, fun r hr => (h.oks r hr).below (hb.mono hB), h.px.on hb, h.pz.on hb, h.xok.below (hb.mono hB), h.lt, h.below.trans (hb.mono h.below.size)⟩
theorem OwnP.box {w W : World} {C g : Nat} {v : Value} {rs : List Pm} (h : OwnP w C v rs) (hg : w.grownBy W (some g)) (hlt : g < C) : OwnP W C v rs :=
  World.ownsRow.kept h hg (by
    cases hv : v.ownBlock with
    | none => exact .inl rfl
    | some k => exact .inr fun e => by have := ownBlock_gep h k hv; simp only [Option.some.injEq] at e; omega)
/-- A step more is put behind those that passed. -/
theorem PastI.step {w wc w2 : World} {B : Nat} {A1 : Option Addr} {n1 c1 : Nat} {rs : List Pm} {x a b : Pm} {ga g2 c2 : Nat} (h : PastI w wc B A1 n1 c1 rs x) (hB : B ≤ w.heap.size) (ha : PrimAt wc ga a) (hga : ∀ q, (Value.slice A1 n1 c1).ownBlock = some q → q ≠ ga) (oa : a.Ok wc B) (ob : b.Ok wc B) (hl : LtK a.key)
    (ho : OwnP w2 (w.heap.size + 1 + 1) (.slice (some ⟨g2, 0, none⟩) (rs.length + 1) c2) (rs ++ [b])) (hg : (wc.alloc (.cells #[.int .i64 b.kind, .string b.p, .string b.dst, .int .i64 b.at_, .slice b.a1 b.old.length b.c1, .slice b.a2 b.new.length b.c2] 33)).grownBy w2 (Value.slice A1 n1 c1).ownBlock) :
    PastI w (setPrim w2 w.heap.size a) B (some ⟨g2, 0, none⟩) (rs.length + 1) c2 (rs ++ [b]) a ∧ PrimAt w2 w.heap.size x ∧ PrimAt w2 ga a := by
  have hal : Below wc.heap.size wc (wc.alloc (.cells #[.int .i64 b.kind, .string b.p, .string b.dst, .int .i64 b.at_, .slice b.a1 b.old.length b.c1, .slice b.a2 b.new.length b.c2] 33)) := (Below.refl _ _).alloc (Nat.le_refl _) _
  have hge : ∀ q, (Value.slice A1 n1 c1).ownBlock = some q → w.heap.size + 1 + 1 ≤ q := fun q e => ownBlock_gep h.own q e
  have hws : w.heap.size + 1 < wc.heap.size := h.pz.lt
  have p2 : PrimAt w2 w.heap.size x := (h.px.on hal).grown hg fun e => by have := hge _ e; omega
  have z2 : PrimAt w2 (w.heap.size + 1) ⟨0, ⟨#[]⟩, ⟨#[]⟩, 0, none, 0, [], none, 0, []⟩ := (h.pz.on hal).grown hg fun e => by have := hge _ e; omega
  have a2 : PrimAt w2 ga a := (ha.on hal).grown hg fun e => hga _ e rfl
  have b0 : Below (w.heap.size + 1 + 1) wc (wc.alloc (.cells #[.int .i64 b.kind, .string b.p, .string b.dst, .int .i64 b.at_, .slice b.a1 b.old.length b.c1, .slice b.a2 b.new.length b.c2] 33)) := hal.mono (by omega)
  have b1 : Below (w.heap.size + 1 + 1) wc w2 := b0.grown hg (by rw [World.size_alloc]; omega) fun q e => hge q e
  have hs2 : w.heap.size ≤ w2.heap.size := Nat.le_trans (by omega) b1.size
  have c1 : Below w.heap.size wc w2 := b1.mono (by omega)
  have c2 : Below w.heap.size wc (setPrim w2 w.heap.size a) := below_prim a c1 (Nat.le_refl _) hs2
  have g3 := setPrim_grown w2 w.heap.size a
  have cB := c2.mono hB
  refine ⟨⟨ho.box g3 (by omega), fun r hr => ?_, setPrim_at p2 a, z2.grown g3 (by simp), oa.below cB, hl, h.below.trans c2⟩, p2, a2⟩
  rcases List.mem_append.1 hr with hr | hr
  · exact (h.oks r hr).below cB
  · simp only [List.mem_cons, List.not_mem_nil, or_false] at hr
    subst hr
    exact ob.below cB
end Go.Proofs.YtalabahjfmcnbaaGreatDoor
