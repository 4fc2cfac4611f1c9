/- The state of a walk through two lists: the hunks so far, and the hunk that is open. Package diff's hunk: a hunk that shares no memory with the lists that it is of. Words for memory: rows of numbers, and rows of rows. The reference's Alike of layer 4: the table of how much is alike. -/
import Derived.Test.YtknommnlkdlkdaaGreatDoorCk09
import Derived.Laws.Rows
import Derived.Laws.ResultCell
import Derived.Test.YtknommnlkdlkdaaGreatDoorCk02
import Derived.Test.YtknommnlkdlkdaaGreatDoorCk03
import Derived.BigQuiet
import Derived.BigRegion
import Derived.StillTailTactics
import Derived.Deep.QuietTactic
import Derived.Handy
import Derived.IntWalk
namespace Go.Proofs.YtknommnlkdlkdaaGreatDoor
open Go.RowKit
set_option linter.unusedVariables false

/-- A slice of hunks comes back. -/
def HunksTold (w : World) (hk : List (Hk (List UInt8))) (e : Ending) (w' : World) : Prop :=
  ∃ A cap hs, e = .returned (.slice A (List.length (α := Hm) hs) cap) ∧ (plains hs = hk ∧ ∀ h ∈ hs, 0 ≤ h.at_) ∧ Room A hs.length cap ∧ Hks w' w'.heap.size A hs ∧ Below w.heap.size w w'
def Hm.v1 (h : Hm) : Value := .slice h.a1 h.old.length h.c1
def Hm.v2 (h : Hm) : Value := .slice h.a2 h.new.length h.c2
/-- Lines lie in a block of strings. -/
def Typed (w : World) (A : Option Addr) (ls : List (List UInt8)) : Prop := 0 < ls.length → ∃ b off cur fz, A = some ⟨b, off, none⟩ ∧ w.heap[b]? = some (.cells cur 9 fz)
/-- The hunks so far, and the hunk that is open, in block G. -/
structure Walking (w : World) (G : Nat) (o : Value) (hs : List Hm) (h : Hm) : Prop where
  own : OwnH w (G + 1) o hs
  at_ : HunkAt w G h
  rows : ∃ B, (∀ x ∈ hs, x.Ok w B) ∧ B ≤ w.heap.size ∧ G + 1 ≤ B ∧ OwnS w B h.v1 h.old ∧ OwnS w B h.v2 h.new
  apart : ∀ k, h.v1.ownBlock = some k → h.v2.ownBlock ≠ some k
  ty : ∀ x ∈ hs, Typed w x.a1 x.old ∧ Typed w x.a2 x.new
  pos : ∀ x ∈ hs, 0 ≤ x.at_
  lo : 0 ≤ h.at_
  hi : h.at_ ≤ 100000

theorem grown_set (w : World) (g i : Nat) (v : Value) : w.grownBy (w.setCell ⟨g, i, none⟩ v) (some g) :=
  ⟨rfl, rfl, rfl, by simp [World.setCell], fun k _ hne => Below.heap_setCell w _ v k (fun e => hne (by simp [e]))⟩
theorem grown_trans {a b c : World} {row : Option Nat} (h : a.grownBy b row) (k : b.grownBy c row) : a.grownBy c row :=
  ⟨k.os.trans h.os, k.tape.trans h.tape, k.output.trans h.output, Nat.le_trans h.size k.size, fun i hi hne => (k.block i (Nat.lt_of_lt_of_le hi h.size) hne).trans (h.block i hi hne)⟩
section
variable {w w' : World} {G : Nat} {h : Hm}
theorem HunkAt.set0 (k : HunkAt w G h) (n : Int) : HunkAt (w.setCell ⟨G, 0, none⟩ (.int .i64 n)) G { h with at_ := n } := by
  unfold HunkAt at k ⊢
  simp [World.setCell, Array.getElem?_modify, k, Hm.cells]
theorem HunkAt.set1 (k : HunkAt w G h) (A : Option Addr) (l : List (List UInt8)) (c n : Nat) (hn : n = l.length) : HunkAt (w.setCell ⟨G, 1, none⟩ (.slice A n c)) G { h with a1 := A, old := l, c1 := c } := by
  subst hn
  unfold HunkAt at k ⊢
  simp [World.setCell, Array.getElem?_modify, k, Hm.cells]
theorem HunkAt.set2 (k : HunkAt w G h) (A : Option Addr) (l : List (List UInt8)) (c n : Nat) (hn : n = l.length) : HunkAt (w.setCell ⟨G, 2, none⟩ (.slice A n c)) G { h with a2 := A, new := l, c2 := c } := by
  subst hn
  unfold HunkAt at k ⊢
  simp [World.setCell, Array.getElem?_modify, k, Hm.cells]
theorem HunkAt.not_str (k : HunkAt w G h) (off : Nat) (s : ByteArray) : w.cell? ⟨G, off, none⟩ ≠ some (.string s) := by
  intro e
  simp only [World.cell?, show w.heap[G]? = _ from k, Hm.cells] at e
  match off, e with
  | 0, e => simp at e
  | 1, e => simp at e
  | 2, e => simp at e
  | n + 3, e => simp at e
theorem Strs.grown {B : Nat} {A : Option Addr} {ss : List ByteArray} {row : Option Nat} (s : Strs w B A ss) (hg : w.grownBy w' row) (hr : ∀ g, row = some g → B ≤ g ∨ ∃ h, HunkAt w g h) : Strs w' B A ss := fun hp => by
  obtain ⟨b, off, e, hlt, hc⟩ := s hp
  have hb : b < w.heap.size := by
    have := hc 0 hp
    unfold World.cell? at this
    rcases Nat.lt_or_ge b w.heap.size with h1 | h1
    · exact h1
    · rw [Array.getElem?_eq_none h1] at this; simp at this
  have hne : row ≠ some b := by
    intro hr'
    rcases hr b hr' with h1 | ⟨h, h1⟩
    · omega
    · exact h1.not_str _ _ (hc 0 hp)
  refine ⟨b, off, e, hlt, fun j hj => ?_⟩
  have := hc j hj
  unfold World.cell? at this ⊢
  rw [hg.block b hb (fun e => hne e.symm)]
  exact this
theorem Typed.grown {A : Option Addr} {ls : List (List UInt8)} {row : Option Nat} (t : Typed w A ls) (hg : w.grownBy w' row) (hr : ∀ g, row = some g → (∃ h, HunkAt w g h) ∨ (∃ B v hs, OwnH w B v hs ∧ v.ownBlock = some g) ∨ ∃ B, Strs w B A (toBs ls) ∧ B ≤ g) : Typed w' A ls := fun hp => by
  obtain ⟨b, off, cur, fz, e, hb⟩ := t hp
  have hne : row ≠ some b := by
    intro hr'
    rcases hr b hr' with ⟨h, h1⟩ | ⟨B, v, hs, h1, h2⟩ | ⟨B, h1, h2⟩
    · rw [show w.heap[b]? = _ from h1] at hb
      simp only [Option.some.injEq, Obj.cells.injEq] at hb
      exact absurd hb.2.1 (by decide)
    · rcases h1.2 with ⟨rfl, _⟩ | ⟨g1, c1, cur1, rfl, _, hg1, _⟩
      · simp [Value.ownBlock] at h2
      · simp only [Value.ownBlock, Option.some.injEq] at h2
        subst h2
        rw [hg1] at hb
        simp only [Option.some.injEq, Obj.cells.injEq] at hb
        exact absurd hb.2.1 (by decide)
    · obtain ⟨b2, off2, e2, hlt, _⟩ := h1 (by rw [toBs_len]; exact hp)
      rw [e] at e2
      cases e2
      omega
  exact ⟨b, off, cur, fz, e, (hg.block b (Array.getElem?_eq_some_iff.1 hb).1 (fun e => hne e.symm)).trans hb⟩
theorem OwnS.typed {B n c : Nat} {A : Option Addr} {ls : List (List UInt8)} (o : OwnS w B (.slice A n c) ls) : Typed w A ls := fun hp => by
  rcases o.2 with ⟨_, h0⟩ | ⟨g2, c2, cur2, he, _, hg2, _⟩
  · omega
  · simp only [Value.slice.injEq] at he
    exact ⟨g2, 0, cur2, _, he.1, hg2⟩
/-- Strings in a block of strings stay where another block grows. -/
theorem Strs.typedGrown {B : Nat} {A : Option Addr} {ls : List (List UInt8)} {row : Option Nat} (s : Strs w B A (toBs ls)) (t : Typed w A ls) (hg : w.grownBy w' row) (hr : ∀ g, row = some g → ∃ B v hs, OwnH w B v hs ∧ v.ownBlock = some g) : Strs w' B A (toBs ls) := fun hp => by
  obtain ⟨b, off, e, hlt, hc⟩ := s hp
  obtain ⟨b2, off2, cur, fz, e2, hb⟩ := t (by rw [toBs_len] at hp; exact hp)
  rw [e] at e2
  cases e2
  have hne : row ≠ some b := by
    intro hr'
    obtain ⟨B, v, hs, h1, h2⟩ := hr b hr'
    rcases h1.2 with ⟨rfl, _⟩ | ⟨g1, c1, cur1, rfl, _, hg1, _⟩
    · simp [Value.ownBlock] at h2
    · simp only [Value.ownBlock, Option.some.injEq] at h2
      subst h2
      rw [hg1] at hb
      simp only [Option.some.injEq, Obj.cells.injEq] at hb
      exact absurd hb.2.1 (by decide)
  refine ⟨b, off, e, hlt, fun j hj => ?_⟩
  have := hc j hj
  unfold World.cell? at this ⊢
  rw [hg.block b (Array.getElem?_eq_some_iff.1 hb).1 (fun e => hne e.symm)]
  exact this
theorem Hm.Ok.grown {x : Hm} {B : Nat} {row : Option Nat} (k : x.Ok w B) (hg : w.grownBy w' row) (hr : ∀ g, row = some g → B ≤ g ∨ ∃ h, HunkAt w g h) : x.Ok w' B :=
  ⟨k.old.grown hg hr, k.new.grown hg hr, k.r1, k.r2, k.lo, k.hi, k.n1, k.n2⟩
theorem OwnH.kept {B : Nat} {v : Value} {hs : List Hm} {row : Option Nat} (o : OwnH w B v hs) (hg : w.grownBy w' row) (hr : ∀ g, row = some g → v.ownBlock ≠ some g) : OwnH w' B v hs :=
  World.ownsRow.kept o hg (by
    cases hv : v.ownBlock with
    | none => exact .inl rfl
    | some k => exact .inr fun e => hr k e.symm (by rw [hv]))
theorem OwnS.keptBy {B : Nat} {v : Value} {ls : List (List UInt8)} {row : Option Nat} (o : OwnS w B v ls) (hg : w.grownBy w' row) (hr : ∀ g, row = some g → v.ownBlock ≠ some g) : OwnS w' B v ls :=
  World.ownsRow.kept o hg (by
    cases hv : v.ownBlock with
    | none => exact .inl rfl
    | some k => exact .inr fun e => hr k e.symm (by rw [hv]))
theorem OwnH.lt {B k : Nat} {v : Value} {hs : List Hm} (o : OwnH w B v hs) (hk : v.ownBlock = some k) : B ≤ k := (World.ownsRow.lt o k hk).1
theorem below_none {w w' : World} (hb : Below w.heap.size w w') : w.grownBy w' none := ⟨hb.os, hb.tape, hb.output, hb.size, fun i hi _ => hb.block i hi⟩
end
/-- A new hunk is begun. -/
theorem Walking.reset {w : World} {G : Nat} {o : Value} {hs : List Hm} {h : Hm} (own : OwnH w (G + 1) o hs) (at_ : HunkAt w G h) (ok : ∃ B, (∀ x ∈ hs, x.Ok w B) ∧ B ≤ w.heap.size ∧ G + 1 ≤ B) (ty : ∀ x ∈ hs, Typed w x.a1 x.old ∧ Typed w x.a2 x.new) (pos : ∀ x ∈ hs, 0 ≤ x.at_) (n : Int) (h0 : 0 ≤ n) (h1 : n ≤ 100000) :
    Walking (((w.setCell ⟨G, 0, none⟩ (.int .i64 n)).setCell ⟨G, 1, none⟩ (.slice none 0 0)).setCell ⟨G, 2, none⟩ (.slice none 0 0)) G o hs ⟨n, none, 0, [], none, 0, []⟩ := by
  have hg : w.grownBy (((w.setCell ⟨G, 0, none⟩ (.int .i64 n)).setCell ⟨G, 1, none⟩ (.slice none 0 0)).setCell ⟨G, 2, none⟩ (.slice none 0 0)) (some G) :=
    grown_trans (grown_trans (grown_set w G 0 _) (grown_set _ G 1 _)) (grown_set _ G 2 _)
  obtain ⟨B, hok, hB, hG⟩ := ok
  refine ⟨own.kept hg fun g e hv => ?_, ((at_.set0 n).set1 none [] 0 0 rfl).set2 none [] 0 0 rfl, ⟨B, fun x hx => (hok x hx).grown hg fun g e => ?_, Nat.le_trans hB hg.size, hG, OwnS.nil _ _, OwnS.nil _ _⟩, fun k h => (by simp [Hm.v1, Value.ownBlock] at h), fun x hx => ⟨(ty x hx).1.grown hg fun g e => .inl ?_, (ty x hx).2.grown hg fun g e => .inl ?_⟩, pos, h0, h1⟩
  · have := own.lt hv
    simp only [Option.some.injEq] at e
    omega
  · simp only [Option.some.injEq] at e
    subst e
    exact .inr ⟨h, at_⟩
  · simp only [Option.some.injEq] at e
    subst e
    exact ⟨h, at_⟩
  · simp only [Option.some.injEq] at e
    subst e
    exact ⟨h, at_⟩
/-- What is known of a walk, behind blocks that are new. -/
theorem Walking.on {w w' : World} {G : Nat} {o : Value} {hs : List Hm} {h : Hm} (k : Walking w G o hs h) (hb : Below w.heap.size w w') : Walking w' G o hs h := by
  obtain ⟨B, hok, hB, hG, h1, h2⟩ := k.rows
  exact ⟨k.own.kept (below_none hb) (fun g e => by cases e), k.at_.on hb, ⟨B, fun x hx => (hok x hx).grown (below_none hb) (fun g e => by cases e), Nat.le_trans hB hb.size, hG, h1.kept hb, h2.kept hb⟩, k.apart, fun x hx => ⟨(k.ty x hx).1.grown (below_none hb) (fun g e => by cases e), (k.ty x hx).2.grown (below_none hb) (fun g e => by cases e)⟩, k.pos, k.lo, k.hi⟩
theorem Walking.hok {w : World} {G : Nat} {o : Value} {hs : List Hm} {h : Hm} (k : Walking w G o hs h) (hl : h.old.length ≤ 100000) (hl2 : h.new.length ≤ 100000) : h.Ok w w.heap.size := by
  obtain ⟨B, hok, hB, hG, h1, h2⟩ := k.rows
  obtain ⟨s1, r1, _⟩ := h1.at_
  obtain ⟨s2, r2, _⟩ := h2.at_
  have l1 := k.lo
  have l2 := k.hi
  exact ⟨s1, s2, r1, r2, by omega, by omega, by omega, by omega⟩
/-- The open hunk comes behind the others. -/
theorem Walking.flush {w w' : World} {G : Nat} {o : Value} {hs : List Hm} {h : Hm} (k : Walking w G o hs h) (hl : h.old.length ≤ 100000) (hl2 : h.new.length ≤ 100000) (hg : w.grownBy w' o.ownBlock) :
    HunkAt w' G h ∧ (∃ B, (∀ x ∈ hs ++ [h], x.Ok w' B) ∧ B ≤ w'.heap.size ∧ G + 1 ≤ B) ∧ (∀ x ∈ hs ++ [h], Typed w' x.a1 x.old ∧ Typed w' x.a2 x.new) ∧ ∀ x ∈ hs ++ [h], 0 ≤ x.at_ := by
  have hk := k.hok hl hl2
  obtain ⟨B, hok, hB, hG, h1, h2⟩ := k.rows
  have hrow : ∀ g, o.ownBlock = some g → ∃ B v hs, OwnH w B v hs ∧ v.ownBlock = some g := fun g e => ⟨_, _, _, k.own, e⟩
  have hty : ∀ x ∈ hs ++ [h], x.Ok w w.heap.size ∧ Typed w x.a1 x.old ∧ Typed w x.a2 x.new ∧ 0 ≤ x.at_ := by
    intro x hx
    rcases List.mem_append.1 hx with hx | hx
    · exact ⟨(hok x hx).more hB, (k.ty x hx).1, (k.ty x hx).2, k.pos x hx⟩
    · simp only [List.mem_singleton] at hx
      subst hx
      exact ⟨hk, h1.typed, h2.typed, k.lo⟩
  refine ⟨k.at_.grown hg fun e => ?_, ⟨w.heap.size, fun x hx => ?_, hg.size, Nat.le_trans hG hB⟩, fun x hx => ?_, fun x hx => (hty x hx).2.2.2⟩
  · have := k.own.lt e
    omega
  · obtain ⟨o1, t1, t2, _⟩ := hty x hx
    exact ⟨o1.old.typedGrown t1 hg hrow, o1.new.typedGrown t2 hg hrow, o1.r1, o1.r2, o1.lo, o1.hi, o1.n1, o1.n2⟩
  · obtain ⟨_, t1, t2, _⟩ := hty x hx
    exact ⟨t1.grown hg fun g e => .inr (.inl (hrow g e)), t2.grown hg fun g e => .inr (.inl (hrow g e))⟩
/-- A line more goes. -/
theorem Walking.goes {w w' : World} {G B g c : Nat} {o : Value} {hs : List Hm} {h : Hm} {s : List UInt8} (k : Walking w G o hs h) (hok : ∀ x ∈ hs, x.Ok w B) (hB : B ≤ w.heap.size) (hG : G + 1 ≤ B) (h1 : OwnS w B h.v1 h.old) (h2 : OwnS w B h.v2 h.new)
    (ho : OwnS w' B (.slice (some ⟨g, 0, none⟩) (h.old.length + 1) c) (h.old ++ [s])) (hg : w.grownBy w' h.v1.ownBlock) (hat : h.v1.ownBlock = some g ∨ g = w.heap.size) :
    Walking (w'.setCell ⟨G, 1, none⟩ (.slice (some ⟨g, 0, none⟩) (h.old.length + 1) c)) G o hs { h with a1 := some ⟨g, 0, none⟩, old := h.old ++ [s], c1 := c } := by
  have hs1 := grown_set w' G 1 (.slice (some ⟨g, 0, none⟩) (h.old.length + 1) c)
  have hge : ∀ j, h.v1.ownBlock = some j → B ≤ j := fun j e => ownBlock_ge h1 j e
  have at1 : HunkAt w' G h := k.at_.grown hg (k.at_.ne_strs h1)
  have own1 : OwnH w' (G + 1) o hs := k.own.kept hg fun j e => k.own.ne_strs h1 j e
  have new1 : OwnS w' B h.v2 h.new := h2.keptBy hg fun j e => k.apart j e
  have hGlt : ∀ j, some G = some j → j = G := fun j e => by simp only [Option.some.injEq] at e; omega
  refine ⟨own1.kept hs1 fun j e hv => ?_, at1.set1 _ _ _ _ (by simp), ⟨B, fun x hx => ((hok x hx).grown hg fun j e => .inl (hge j e)).grown hs1 fun j e => ?_, Nat.le_trans hB (Nat.le_trans hg.size hs1.size), hG, ?_, ?_⟩, ?_, fun x hx => ?_, k.pos, k.lo, k.hi⟩
  · have := own1.lt hv
    have := hGlt j e
    omega
  · have := hGlt j e
    subst this
    exact .inr ⟨h, at1⟩
  · have := ho.keptBy hs1 fun j e => by rw [hGlt j e]; exact at1.ne_strs ho
    simpa [Hm.v1] using this
  · exact new1.keptBy hs1 fun j e => by rw [hGlt j e]; exact at1.ne_strs new1
  · intro j hj
    simp only [Hm.v1, Value.ownBlock, Option.some.injEq] at hj
    subst hj
    rcases hat with hat | rfl
    · exact k.apart g hat
    · intro e
      have := (World.ownsRow.lt h2 _ e).2
      omega
  · obtain ⟨t1, t2⟩ := k.ty x hx
    have u1 := t1.grown hg fun j e => .inr (.inr ⟨B, (hok x hx).old, hge j e⟩)
    have u2 := t2.grown hg fun j e => .inr (.inr ⟨B, (hok x hx).new, hge j e⟩)
    exact ⟨u1.grown hs1 fun j e => .inl (by rw [hGlt j e]; exact ⟨h, at1⟩), u2.grown hs1 fun j e => .inl (by rw [hGlt j e]; exact ⟨h, at1⟩)⟩
/-- A line more comes. -/
theorem Walking.comes {w w' : World} {G B g c : Nat} {o : Value} {hs : List Hm} {h : Hm} {s : List UInt8} (k : Walking w G o hs h) (hok : ∀ x ∈ hs, x.Ok w B) (hB : B ≤ w.heap.size) (hG : G + 1 ≤ B) (h1 : OwnS w B h.v1 h.old) (h2 : OwnS w B h.v2 h.new)
    (ho : OwnS w' B (.slice (some ⟨g, 0, none⟩) (h.new.length + 1) c) (h.new ++ [s])) (hg : w.grownBy w' h.v2.ownBlock) (hat : h.v2.ownBlock = some g ∨ g = w.heap.size) :
    Walking (w'.setCell ⟨G, 2, none⟩ (.slice (some ⟨g, 0, none⟩) (h.new.length + 1) c)) G o hs { h with a2 := some ⟨g, 0, none⟩, new := h.new ++ [s], c2 := c } := by
  have hs1 := grown_set w' G 2 (.slice (some ⟨g, 0, none⟩) (h.new.length + 1) c)
  have hge : ∀ j, h.v2.ownBlock = some j → B ≤ j := fun j e => ownBlock_ge h2 j e
  have at1 : HunkAt w' G h := k.at_.grown hg (k.at_.ne_strs h2)
  have own1 : OwnH w' (G + 1) o hs := k.own.kept hg fun j e => k.own.ne_strs h2 j e
  have old1 : OwnS w' B h.v1 h.old := h1.keptBy hg fun j e hv => k.apart j hv e
  have hGlt : ∀ j, some G = some j → j = G := fun j e => by simp only [Option.some.injEq] at e; omega
  refine ⟨own1.kept hs1 fun j e hv => ?_, at1.set2 _ _ _ _ (by simp), ⟨B, fun x hx => ((hok x hx).grown hg fun j e => .inl (hge j e)).grown hs1 fun j e => ?_, Nat.le_trans hB (Nat.le_trans hg.size hs1.size), hG, ?_, ?_⟩, ?_, fun x hx => ?_, k.pos, k.lo, k.hi⟩
  · have := own1.lt hv
    have := hGlt j e
    omega
  · have := hGlt j e
    subst this
    exact .inr ⟨h, at1⟩
  · exact old1.keptBy hs1 fun j e => by rw [hGlt j e]; exact at1.ne_strs old1
  · have := ho.keptBy hs1 fun j e => by rw [hGlt j e]; exact at1.ne_strs ho
    simpa [Hm.v2] using this
  · intro j hj e
    simp only [Hm.v2, Value.ownBlock, Option.some.injEq] at e
    subst e
    rcases hat with hat | rfl
    · exact k.apart g hj hat
    · have := (World.ownsRow.lt h1 _ hj).2
      omega
  · obtain ⟨t1, t2⟩ := k.ty x hx
    have u1 := t1.grown hg fun j e => .inr (.inr ⟨B, (hok x hx).old, hge j e⟩)
    have u2 := t2.grown hg fun j e => .inr (.inr ⟨B, (hok x hx).new, hge j e⟩)
    exact ⟨u1.grown hs1 fun j e => .inl (by rw [hGlt j e]; exact ⟨h, at1⟩), u2.grown hs1 fun j e => .inl (by rw [hGlt j e]; exact ⟨h, at1⟩)⟩
theorem Walking.goesAt {w : World} {G B : Nat} {o : Value} {hs : List Hm} {h : Hm} (k : Walking w G o hs h) (hok : ∀ x ∈ hs, x.Ok w B) (hB : B ≤ w.heap.size) (hG : G + 1 ≤ B) (h1 : OwnS w B h.v1 h.old) (h2 : OwnS w B h.v2 h.new) (str : List UInt8) (q g c : Nat) (w2 : World)
    (ho : w2.ownsRow B 9 1 (.slice (some ⟨g, 0, none⟩) (h.old.length + 1) c) (h.old.length + 1) (h.old.map encStr ++ [.string (toB str)])) (hg : ((w.drewN q).alloc (.cells #[.string (toB str)] 9)).grownBy w2 h.v1.ownBlock)
    (hat : h.v1.ownBlock = some g ∨ g = ((w.drewN q).alloc (.cells #[.string (toB str)] 9)).heap.size) :
    (Walking (w2.setCell ⟨G, 1, none⟩ (.slice (some ⟨g, 0, none⟩) (h.old.length + 1) c)) G o hs { h with a1 := some ⟨g, 0, none⟩, old := h.old ++ [str], c1 := c } ∧ Below G w (w2.setCell ⟨G, 1, none⟩ (.slice (some ⟨g, 0, none⟩) (h.old.length + 1) c))) ∧ w2.frozen? ⟨G, 1, none⟩ = false ∧ w2.cell? ⟨G, 1, none⟩ = some (.slice h.a1 h.old.length h.c1) := by
  have hb : Below w.heap.size w ((w.drewN q).alloc (.cells #[.string (toB str)] 9)) := (below_drewN (Below.refl _ _) q).alloc (Nat.le_refl _) _
  have kW := k.on hb
  have ho' : OwnS w2 B (.slice (some ⟨g, 0, none⟩) (h.old.length + 1) c) (h.old ++ [str]) := by
    unfold OwnS
    rw [List.length_append, List.map_append]
    exact ho
  have hkk := Walking.goes kW (fun x hx => ((hok x hx).grown (below_none hb) (fun g e => by cases e))) (Nat.le_trans hB hb.size) hG (h1.kept hb) (h2.kept hb) ho' hg hat
  have at2 : HunkAt w2 G h := kW.at_.grown hg (kW.at_.ne_strs (h1.kept hb))
  have hGlt := k.at_.lt
  refine ⟨⟨hkk, ?_⟩, at2.f 1, at2.c1⟩
  have hb2 : Below G w w2 := ((below_drewN (Below.refl G w) q).alloc (by show G ≤ w.heap.size; omega) _).grown hg (by show G ≤ ((w.drewN q).alloc _).heap.size; simp; omega) fun j hj => by
    have := ownBlock_ge h1 j hj
    omega
  exact hb2.setCell (Nat.le_refl _) _
theorem Walking.comesAt {w : World} {G B : Nat} {o : Value} {hs : List Hm} {h : Hm} (k : Walking w G o hs h) (hok : ∀ x ∈ hs, x.Ok w B) (hB : B ≤ w.heap.size) (hG : G + 1 ≤ B) (h1 : OwnS w B h.v1 h.old) (h2 : OwnS w B h.v2 h.new) (str : List UInt8) (q g c : Nat) (w2 : World)
    (ho : w2.ownsRow B 9 1 (.slice (some ⟨g, 0, none⟩) (h.new.length + 1) c) (h.new.length + 1) (h.new.map encStr ++ [.string (toB str)])) (hg : ((w.drewN q).alloc (.cells #[.string (toB str)] 9)).grownBy w2 h.v2.ownBlock)
    (hat : h.v2.ownBlock = some g ∨ g = ((w.drewN q).alloc (.cells #[.string (toB str)] 9)).heap.size) :
    (Walking (w2.setCell ⟨G, 2, none⟩ (.slice (some ⟨g, 0, none⟩) (h.new.length + 1) c)) G o hs { h with a2 := some ⟨g, 0, none⟩, new := h.new ++ [str], c2 := c } ∧ Below G w (w2.setCell ⟨G, 2, none⟩ (.slice (some ⟨g, 0, none⟩) (h.new.length + 1) c))) ∧ w2.frozen? ⟨G, 2, none⟩ = false ∧ w2.cell? ⟨G, 2, none⟩ = some (.slice h.a2 h.new.length h.c2) := by
  have hb : Below w.heap.size w ((w.drewN q).alloc (.cells #[.string (toB str)] 9)) := (below_drewN (Below.refl _ _) q).alloc (Nat.le_refl _) _
  have kW := k.on hb
  have ho' : OwnS w2 B (.slice (some ⟨g, 0, none⟩) (h.new.length + 1) c) (h.new ++ [str]) := by
    unfold OwnS
    rw [List.length_append, List.map_append]
    exact ho
  have hkk := Walking.comes kW (fun x hx => ((hok x hx).grown (below_none hb) (fun g e => by cases e))) (Nat.le_trans hB hb.size) hG (h1.kept hb) (h2.kept hb) ho' hg hat
  have at2 : HunkAt w2 G h := kW.at_.grown hg (kW.at_.ne_strs (h2.kept hb))
  have hGlt := k.at_.lt
  refine ⟨⟨hkk, ?_⟩, at2.f 2, at2.c2⟩
  have hb2 : Below G w w2 := ((below_drewN (Below.refl G w) q).alloc (by show G ≤ w.heap.size; omega) _).grown hg (by show G ≤ ((w.drewN q).alloc _).heap.size; simp; omega) fun j hj => by
    have := ownBlock_ge h2 j hj
    omega
  exact hb2.setCell (Nat.le_refl _) _
end Go.Proofs.YtknommnlkdlkdaaGreatDoor
namespace Go.Proofs.YtknommnlkdlkdaaGreatDoor
open Go.RowKit
set_option linter.unusedVariables false

/-- A hunk comes back, its lines in rows of its own. -/
def HunkMade (w : World) (n : Int) (la lc : List (List UInt8)) (e : Ending) (w' : World) : Prop :=
  ∃ h : Hm, e = .returned (.agg h.cells.toArray) ∧ (h.at_ = n ∧ h.old = la ∧ h.new = lc) ∧ h.Ok w' w'.heap.size ∧ (Typed w' h.a1 h.old ∧ Typed w' h.a2 h.new) ∧ Below w.heap.size w w'
theorem size_hunk : (Tryz.prog.info? 129).map (·.size) = some 3 := by kernel_rfl
theorem load_hunk {w : World} {g : Nat} {h : Hm} (k : HunkAt w g h) : (loadVar 129 ⟨g, 0, none⟩).run Tryz.prog w = .ok (.agg h.cells.toArray) w :=
  run_loadVar_row w g 129 129 h.cells.toArray (0, 0) _ k Tryz.underlying129 rfl size_hunk
theorem ret_hunk {fn : Func} {p : Tmp} (h : fn.results = #[.cell p 129]) (tmps : Array Value) (w : World) (g : Nat) (x : Hm) (hp : tmps.getD p undef = .pointer (some ⟨g, 0, none⟩)) (k : HunkAt w g x) :
    (results fn tmps).run Tryz.prog w = .ok (.agg x.cells.toArray) w :=
  results_cell_row h tmps w g 129 _ (0, 0) _ hp k Tryz.underlying129 rfl size_hunk
theorem ret_hunk2 {fn : Func} {p u : Tmp} (h : fn.results = #[.cell p 129, .tmp u]) (tmps : Array Value) (w : World) (g : Nat) (x : Hm) (v : Value) (hp : tmps.getD p undef = .pointer (some ⟨g, 0, none⟩)) (hv : tmps.getD u undef = v) (k : HunkAt w g x) :
    (results fn tmps).run Tryz.prog w = .ok (.tuple #[.agg x.cells.toArray, v]) w := by
  rw [results_cell_tmp h, hp, hv]
  simp [asAddr, load_hunk k, Result.andThen]
theorem Strs.row {w : World} {A : Option Addr} {cap : Nat} {ls : List (List UInt8)} (h : Strs w w.heap.size A (toBs ls)) : Hid (Strs w w.heap.size A (toBs ls)) := h

end Go.Proofs.YtknommnlkdlkdaaGreatDoor
namespace Go.Proofs.YtknommnlkdlkdaaGreatDoor
open Go.RowKit
set_option linter.unusedVariables false

def intV (n : Nat) : Value := .int .i64 (n : Int)
/-- Numbers lie in block g, one a cell. -/
def IntsAt (w : World) (g : Nat) (ns : List Nat) : Prop := w.heap[g]? = some (.cells (ns.map intV).toArray 3 (0, 0))
section
variable {w w' : World} {g : Nat} {ns : List Nat}
theorem IntsAt.c (h : IntsAt w g ns) {i : Nat} (hi : i < ns.length) : w.cell? ⟨g, i, none⟩ = some (.int .i64 (ns[i] : Int)) := by
  simp [World.cell?, show w.heap[g]? = _ from h, hi, intV]
theorem IntsAt.f (h : IntsAt w g ns) (i : Nat) : w.frozen? ⟨g, i, none⟩ = false := by simp [World.frozen?, show w.heap[g]? = _ from h]
theorem IntsAt.lt (h : IntsAt w g ns) : g < w.heap.size := (Array.getElem?_eq_some_iff.1 h).1
theorem IntsAt.on (h : IntsAt w g ns) (hb : Below w.heap.size w w') : IntsAt w' g ns := (hb.block g h.lt).trans h
theorem IntsAt.grown {row : Option Nat} (h : IntsAt w g ns) (hg : w.grownBy w' row) (hr : row ≠ some g) : IntsAt w' g ns := (hg.block g h.lt (fun e => hr e.symm)).trans h
theorem IntsAt.set (h : IntsAt w g ns) (i v : Nat) : IntsAt (w.setCell ⟨g, i, none⟩ (.int .i64 (v : Int))) g (ns.set i v) := by
  unfold IntsAt at h ⊢
  simp [World.setCell, Array.getElem?_modify, h, List.map_set, intV]
theorem IntsAt.other (h : IntsAt w g ns) {k i : Nat} (hk : k ≠ g) (v : Value) : IntsAt (w.setCell ⟨k, i, none⟩ v) g ns :=
  (Below.heap_setCell w _ v g (fun e => hk e.symm)).trans h
end
/-- Rows of numbers, each in a block of its own: the slices' row and the blocks that it names. -/
def rowVal (n : Nat) (g : Nat) : Value := .slice (some ⟨g, 0, none⟩) n n
/-- A row of rows that the call made: each row has n numbers. -/
def OwnRows (w : World) (B : Nat) (v : Value) (n : Nat) (rows : List (List Nat)) : Prop :=
  ∃ gs : List Nat, gs.length = rows.length ∧ w.ownsRow B 114 1 v rows.length (gs.map (rowVal n)) ∧ ∀ j (h : j < gs.length) (h2 : j < rows.length), IntsAt w gs[j] rows[j] ∧ rows[j].length = n

/-- How much is alike of x and of what is left of b from each place on. -/
def rowOf (x b : List (List UInt8)) : List Nat := (List.range (b.length + 1)).map fun k => lcs x (b.drop k)
/-- The same, where it is reckoned yet: from place c on. -/
def fillOf (x b : List (List UInt8)) (c : Nat) : List Nat := (List.range (b.length + 1)).map fun k => if c ≤ k then lcs x (b.drop k) else 0
theorem rowOf_len (x b : List (List UInt8)) : (rowOf x b).length = b.length + 1 := by simp [rowOf]
theorem fillOf_len (x b : List (List UInt8)) (c : Nat) : (fillOf x b c).length = b.length + 1 := by simp [fillOf]
theorem rowOf_get (x b : List (List UInt8)) (k : Nat) (h : k < (rowOf x b).length) : (rowOf x b)[k] = lcs x (b.drop k) := by simp [rowOf]
theorem fillOf_get (x b : List (List UInt8)) (c k : Nat) (h : k < (fillOf x b c).length) (hc : c ≤ k) : (fillOf x b c)[k] = lcs x (b.drop k) := by simp [fillOf, hc]
theorem fillOf_end (x b : List (List UInt8)) : fillOf x b b.length = List.replicate (b.length + 1) 0 := by
  refine List.ext_getElem (by simp [fillOf]) fun k h1 h2 => ?_
  simp only [fillOf, List.getElem_map, List.getElem_range, List.getElem_replicate]
  split
  · rename_i h
    rw [List.drop_of_length_le h, lcs_nil]
  · rfl
theorem fillOf_zero (x b : List (List UInt8)) : fillOf x b 0 = rowOf x b := by simp [fillOf, rowOf]
theorem fillOf_step (x b : List (List UInt8)) (c : Nat) (hc : c < b.length) : fillOf x b c = (fillOf x b (c + 1)).set c (lcs x (b.drop c)) := by
  refine List.ext_getElem (by simp [fillOf]) fun k h1 h2 => ?_
  rw [List.getElem_set]
  simp only [fillOf, List.getElem_map, List.getElem_range]
  split
  · rename_i h
    split
    · rename_i h2; rw [h2]
    · rename_i h2
      rw [if_pos (by omega)]
  · rename_i h
    rw [if_neg (by omega), if_neg (by omega)]
theorem rowOf_nil (b : List (List UInt8)) : rowOf [] b = List.replicate (b.length + 1) 0 := by
  refine List.ext_getElem (by simp [rowOf]) fun k h1 h2 => ?_
  simp only [rowOf, List.getElem_map, List.getElem_range, List.getElem_replicate]
  rfl
theorem lcs_drop (a b : List (List UInt8)) (i k : Nat) (hi : i < a.length) (hk : k < b.length) : lcs (a.drop i) (b.drop k) = if a[i] = b[k] then lcs (a.drop (i + 1)) (b.drop (k + 1)) + 1 else max (lcs (a.drop (i + 1)) (b.drop k)) (lcs (a.drop i) (b.drop (k + 1))) := by
  rw [List.drop_eq_getElem_cons hi, List.drop_eq_getElem_cons hk, lcs_cons, ← List.drop_eq_getElem_cons hk, ← List.drop_eq_getElem_cons hi]
end Go.Proofs.YtknommnlkdlkdaaGreatDoor
namespace Go.Proofs.YtknommnlkdlkdaaGreatDoor
open Go.RowKit
set_option linter.unusedVariables false

/-- The first c rows of the table: of what is left from the end on. -/
def tabOf (la lc : List (List UInt8)) (c : Nat) : List (List Nat) := (List.range c).map fun r => rowOf (la.drop (la.length - r)) lc
theorem tabOf_len (la lc : List (List UInt8)) (c : Nat) : (tabOf la lc c).length = c := by simp [tabOf]
theorem tabOf_succ (la lc : List (List UInt8)) (c : Nat) : tabOf la lc (c + 1) = tabOf la lc c ++ [rowOf (la.drop (la.length - c)) lc] := by
  simp [tabOf, List.range_succ]
theorem info_int : (Tryz.prog.info? 3).map (fun i => (i.zero, i.size, i.bytes)) = some (some (.int .i64 0), 1, 8) := by kernel_rfl
theorem make_ints (n : Nat) (hn : n ≤ 10000) (w : World) : (Instr.makeSlice 114 (.int .i64 ((n : Int) + 1)) (.int .i64 ((n : Int) + 1))).run Tryz.prog w = .ok (.slice (some ⟨w.heap.size, 0, none⟩) (n + 1) (n + 1)) (w.alloc (.cells (Array.replicate (n + 1) (intV 0)) 3)) := by
  obtain ⟨i0, hi, hz0, hz1, hz2⟩ := info_parts info_int
  have h := run_make (w := w) 114 3 i0 _ Tryz.underlying114 hi hz0 .i64 .i64 ((n : Int) + 1) ((n : Int) + 1) (by omega) (by omega) (by rw [hz2]; omega) (by omega)
  rw [h, hz1]
  have e1 : ((n : Int) + 1).toNat = n + 1 := by omega
  have e2 : madeCells (Value.int .i64 0).cells (((n : Int) + 1).toNat * 1) = Array.replicate (n + 1) (intV 0) := by
    rw [e1, Nat.mul_one]
    apply Array.ext
    · simp [madeCells]
    · intro i h1 h2
      simp [madeCells, Value.cells, intV, Nat.mod_one]
  rw [e1] at *
  rw [e2]
theorem ints_new (w : World) (n : Nat) : IntsAt (w.alloc (.cells (Array.replicate n (intV 0)) 3)) w.heap.size (List.replicate n 0) := by
  unfold IntsAt
  rw [heap_alloc_new]
  simp

theorem info_ints : (Tryz.prog.info? 114).map (fun i => (i.zero, i.size, i.bytes)) = some (some (.slice none 0 0), 1, 24) := by kernel_rfl
theorem tabOf_get (la lc : List (List UInt8)) (c j : Nat) (h : j < (tabOf la lc c).length) : (tabOf la lc c)[j] = rowOf (la.drop (la.length - j)) lc := by simp [tabOf]
end Go.Proofs.YtknommnlkdlkdaaGreatDoor
