/- The reference's At of layer 3. The reference's Apply of layer 4. Rows of hunks that a call makes: append. The state of a walk through two lists: the hunks so far, and the hunk that is open. -/
import Derived.Test.YtknommnlkdlkdaaDoorCk02
import Derived.BigQuiet
import Derived.Deep.QuietTactic
import Derived.Handy
import Derived.Test.YtknommnlkdlkdaaDoorCk08
import Derived.Test.YtknommnlkdlkdaaDoorCk03
import Derived.Deep.AppendLies
namespace Go.Proofs.YtknommnlkdlkdaaDoor
open Go.RowKit
set_option linter.unusedVariables false

theorem atB_no {ls part : List (List UInt8)} {a k : Nat} (hk : k < part.length) (ha : a + k < ls.length) (h : ls[a + k] ≠ part[k]) : atB ls part a = false := by
  have : ¬ ((ls.drop a).take part.length = part) := by
    intro e
    have h1 := congrArg (·[k]?) e
    simp only [List.getElem?_take, if_pos hk, List.getElem?_drop, List.getElem?_eq_getElem ha, List.getElem?_eq_getElem hk, Option.some.injEq] at h1
    exact h h1
  simp [atB, this]
theorem atB_yes {ls part : List (List UInt8)} {a : Nat} (hl : a + part.length ≤ ls.length) (h : ∀ k (hk : k < part.length), ls[a + k]'(by omega) = part[k]) : atB ls part a = true := by
  have : (ls.drop a).take part.length = part := by
    apply List.ext_getElem
    · simp; omega
    · intro k h1 h2
      simp only [List.getElem_take, List.getElem_drop]
      exact h k h2
  simp [atB, this]
  omega

end Go.Proofs.YtknommnlkdlkdaaDoor
namespace Go.Proofs.YtknommnlkdlkdaaDoor
open Go.RowKit
set_option linter.unusedVariables false

def plains (hs : List Hm) : List (Hk (List UInt8)) := hs.map Hm.plain
/-- Do all hunks stand? -/
def standB (la : List (List UInt8)) (hs : List Hm) : Bool := hs.all fun h => atB la h.old h.at_
theorem atB_stands {la : List (List UInt8)} {h : Hm} (h0 : 0 ≤ h.at_) : atB la h.old h.at_ = true ↔ Stands la h.plain := by
  obtain ⟨k, hk⟩ : ∃ k : Nat, h.at_ = (k : Int) := ⟨h.at_.toNat, by omega⟩
  unfold Stands Hm.plain
  simp only [hk, Int.toNat_natCast]
  unfold atB
  simp only [Bool.and_eq_true, decide_eq_true_eq, Int.toNat_natCast]
  constructor
  · rintro ⟨⟨_, h2⟩, h3⟩
    exact ⟨by omega, h3⟩
  · rintro ⟨h2, h3⟩
    exact ⟨⟨by omega, by omega⟩, h3⟩
theorem drop_may : ∀ (l : List (Hk (List UInt8))) (k : Nat), May l → May (l.drop k)
  | l, 0, h => h
  | [], k + 1, h => trivial
  | g :: l, k + 1, h => drop_may l k h.2.2
theorem drop_from {l : List (Hk (List UInt8))} {k : Nat} (h : May l) (hk : k < l.length) : From (l[k].at_ + l[k].old.length + 1) (l.drop (k + 1)) := by
  have := drop_may l k h
  rw [List.drop_eq_getElem_cons hk] at this
  exact this.2.1
/-- What stands ahead of a hunk stays, when those behind it are done. -/
theorem refApp_keeps {la : List (List UInt8)} {l : List (Hk (List UInt8))} {i : Nat} (hi : i ≤ la.length) (hf : From i l) (hm : May l) (hs : ∀ h ∈ l, Stands la h) : ∃ b, refApp la l = la.take i ++ b := by
  obtain ⟨b, hb⟩ := stands_done la l i hi hf hm hs
  have := done_app (p := la.take i) (by rw [List.length_take]; omega) hb
  rw [List.take_append_drop] at this
  exact ⟨b, this⟩
theorem refApp_len {la : List (List UInt8)} : ∀ (l : List (Hk (List UInt8))), (refApp la l).length ≤ la.length + sumNew l
  | [] => by simp [refApp, sumNew]
  | h :: l => by
    have ih := refApp_len (la := la) l
    rw [refApp, List.length_append, List.length_append, List.length_take, List.length_drop]
    simp only [sumNew, List.map_cons, List.sum_cons] at ih ⊢
    omega

theorem mem_sum : ∀ {l : List (Hk (List UInt8))} {h : Hk (List UInt8)}, h ∈ l → h.new.length ≤ sumNew l
  | g :: l, h, hh => by
    simp only [sumNew, List.map_cons, List.sum_cons]
    rcases List.mem_cons.1 hh with rfl | hh
    · omega
    · have := mem_sum hh
      simp only [sumNew] at this
      omega
/-- What Apply of the reference leaves. -/
def Appl (w : World) (la : List (List UInt8)) (hs : List Hm) (e : Ending) (w' : World) : Prop :=
  ∃ A cap l d, e = .returned (.tuple #[.slice A (List.length (α := List UInt8) l) cap, .bool d]) ∧ (d = standB la hs ∧ (d = true → l = refApp la (plains hs)) ∧ (d = false → l = [])) ∧ Room A l.length cap ∧ Strs w' w'.heap.size A (toBs l) ∧ Below w.heap.size w w'

end Go.Proofs.YtknommnlkdlkdaaDoor
namespace Go.Proofs.YtknommnlkdlkdaaDoor
open Go.RowKit
set_option linter.unusedVariables false

def hcells (hs : List Hm) : List Value := hs.flatMap Hm.cells
theorem hcells_len : ∀ (hs : List Hm), (hcells hs).length = hs.length * 3
  | [] => rfl
  | h :: hs => by
    have := hcells_len hs
    simp only [hcells, List.flatMap_cons, List.length_append, List.length_cons] at *
    rw [this]
    show 3 + _ = _
    omega
theorem hcells_get : ∀ (hs : List Hm) (j : Nat) (hj : j < hs.length), (hcells hs)[j * 3]? = some (.int .i64 hs[j].at_) ∧ (hcells hs)[j * 3 + 1]? = some (.slice hs[j].a1 hs[j].old.length hs[j].c1) ∧ (hcells hs)[j * 3 + 2]? = some (.slice hs[j].a2 hs[j].new.length hs[j].c2)
  | h :: hs, 0, hj => ⟨rfl, rfl, rfl⟩
  | h :: hs, j + 1, hj => by
    have ih := hcells_get hs j (by simpa using hj)
    have e : ∀ r, (hcells (h :: hs))[(j + 1) * 3 + r]? = (hcells hs)[j * 3 + r]? := by
      intro r
      have e1 : hcells (h :: hs) = h.cells ++ hcells hs := rfl
      rw [e1, List.getElem?_append_right (by show 3 ≤ _; omega)]
      congr 1
      show _ - 3 = _
      omega
    have e0 := e 0
    rw [Nat.add_zero, Nat.add_zero] at e0
    rw [e0, e 1, e 2]
    exact ih
/-- A slice of hunks that the call made. -/
def OwnH (w : World) (B : Nat) (v : Value) (hs : List Hm) : Prop := w.ownsRow B 63 3 v hs.length (hcells hs)
theorem OwnH.nil (w : World) (B : Nat) : OwnH w B (.slice none 0 0) [] := w.ownsRow_nil B 63 3
theorem OwnH.hks {w : World} {B : Nat} {v : Value} {hs : List Hm} (h : OwnH w B v hs) (hok : ∀ h ∈ hs, h.Ok w w.heap.size) : ∃ A cap, v = .slice A hs.length cap ∧ Hks w w.heap.size A hs ∧ Room A hs.length cap := by
  have h' := h
  rcases h.2 with ⟨rfl, h0⟩ | ⟨g, cap, cur, rfl, _, hg, hcap, _⟩
  · have e : hs = [] := List.length_eq_zero_iff.1 h0
    subst e
    exact ⟨none, 0, rfl, Hks.nil, fun _ => rfl, Nat.le_refl _⟩
  · refine ⟨_, cap, rfl, ⟨fun hp => ⟨g, 0, rfl, (Array.getElem?_eq_some_iff.1 hg).1, fun j hj => ?_⟩, hok⟩, (fun e => by cases e), hcap⟩
    obtain ⟨c0, c1, c2⟩ := hcells_get hs j hj
    have e : ∀ i, (⟨g, 0, none⟩ : Addr).add i = ⟨g, i, none⟩ := fun i => by unfold Addr.add; split <;> simp_all
    have k0 := h'.cells (g := g) rfl _ _ c0
    have k1 := h'.cells (g := g) rfl _ _ c1
    have k2 := h'.cells (g := g) rfl _ _ c2
    rw [e] at k0 k1 k2
    rw [Nat.zero_add]
    exact ⟨k0, k1, k2⟩
theorem OwnH.ne_strs {w : World} {B B2 : Nat} {v u : Value} {hs : List Hm} {ls : List (List UInt8)} (h : OwnH w B v hs) (g : OwnS w B2 u ls) : ∀ k, u.ownBlock = some k → v.ownBlock ≠ some k := by
  intro k hk hv
  rcases h.2 with ⟨rfl, _⟩ | ⟨g1, c1, cur1, rfl, _, hg1, _⟩
  · simp [Value.ownBlock] at hv
  · rcases g.2 with ⟨rfl, _⟩ | ⟨g2, c2, cur2, rfl, _, hg2, _⟩
    · simp [Value.ownBlock] at hk
    · simp only [Value.ownBlock, Option.some.injEq] at hk hv
      subst hk hv
      rw [hg1] at hg2
      simp only [Option.some.injEq, Obj.cells.injEq] at hg2
      exact absurd hg2.2.1 (by decide)
theorem HunkAt.ne_strs {w : World} {g B : Nat} {h : Hm} {v : Value} {ls : List (List UInt8)} (k : HunkAt w g h) (o : OwnS w B v ls) : v.ownBlock ≠ some g := by
  intro hv
  rcases o.2 with ⟨rfl, _⟩ | ⟨g2, c2, cur2, rfl, _, hg2, _⟩
  · simp [Value.ownBlock] at hv
  · simp only [Value.ownBlock, Option.some.injEq] at hv
    subst hv
    rw [show w.heap[g2]? = _ from k] at hg2
    simp only [Option.some.injEq, Obj.cells.injEq] at hg2
    exact absurd hg2.2.1 (by decide)
theorem info_hunk : (Tryd.prog.info? 63).map (fun i => (i.zero, i.size, i.bytes)) = some (some (.agg #[.int .i64 0, .slice none 0 0, .slice none 0 0]), 3, 56) := by kernel_rfl
theorem wpList_append_hunk {w : World} {ops : Array Oper} {rest : List Oper} {o : Oper} {a : Act} {Q : Exit → Act → World → Prop} (hgd : o.guard = none) (s x : Operand)
    (ho : o.op = .call { callee := .builtin .append, args := #[s, x], argTypes := #[55, 55] })
    (B : Nat) (v : Value) (hs : List Hm) (hv : a.eval s = v) (hown : OwnH w B v hs) (h : Hm) (b : Nat) (hx : a.eval x = .slice (some ⟨b, 0, none⟩) 1 1) (hb : HunkAt w b h) (hB : B ≤ w.heap.size) (hle : hs.length ≤ 100000)
    (H : Nat) (hH : w.heap.size = H)
    (k : ∀ g cap w', OwnH w' B (.slice (some ⟨g, 0, none⟩) (hs.length + 1) cap) (hs ++ [h]) → w.grownBy w' v.ownBlock → (v.ownBlock = some g ∨ g = H) → wpList Tryd.prog ops Q rest (a.put o.dst (.slice (some ⟨g, 0, none⟩) (hs.length + 1) cap)) w') : wpList Tryd.prog ops Q (o :: rest) a w := by
  obtain ⟨i0, hi, hz0, hz1, hz2⟩ := info_parts info_hunk
  refine wpList_append_lies w hgd s x 55 ho B 63 i0 _ 3 56 Tryd.underlying55 hi hz0 hz1 hz2 rfl (by decide) v hs.length (hcells hs) hv hown ⟨b, 0, none⟩ 1 1 h.cells hx rfl ?_ ?_ (by decide) (by unfold maxLen; omega) (by omega) hB H hH ?_
  · exact World.news_of_block hb
  · intro u hu
    simp only [Hm.cells, List.mem_cons, List.not_mem_nil, or_false] at hu
    rcases hu with rfl | rfl | rfl <;> rfl
  · intro g cap w' ho' hg hat _
    refine k g cap w' ?_ hg hat
    unfold OwnH
    rw [List.length_append]
    have e : hcells (hs ++ [h]) = hcells hs ++ h.cells := by simp [hcells]
    rw [e]
    exact ho'
end Go.Proofs.YtknommnlkdlkdaaDoor
namespace Go.Proofs.YtknommnlkdlkdaaDoor
open Go.RowKit
set_option linter.unusedVariables false

/-- A slice of hunks comes back. -/
def HunksTold (w : World) (hk : List (Hk (List UInt8))) (e : Ending) (w' : World) : Prop :=
  ∃ A cap hs, e = .returned (.slice A (List.length (α := Hm) hs) cap) ∧ (plains hs = hk ∧ ∀ h ∈ hs, 0 ≤ h.at_) ∧ Room A hs.length cap ∧ Hks w' w'.heap.size A hs ∧ Below w.heap.size w w'
def Hm.v1 (h : Hm) : Value := .slice h.a1 h.old.length h.c1
def Hm.v2 (h : Hm) : Value := .slice h.a2 h.new.length h.c2
/-- Lines lie in a block of strings. -/
def Typed (w : World) (A : Option Addr) (ls : List (List UInt8)) : Prop := 0 < ls.length → ∃ b off cur fz, A = some ⟨b, off, none⟩ ∧ w.heap[b]? = some (.cells cur 9 fz)
/-- The hunks so far, and the hunk that is open, in block G. -/
structure Walking (w : World) (G : Nat) (o : Value) (hs : List Hm) (h : Hm) : Prop where
  own : OwnH w (G + 1) o hs
  at_ : HunkAt w G h
  rows : ∃ B, (∀ x ∈ hs, x.Ok w B) ∧ B ≤ w.heap.size ∧ G + 1 ≤ B ∧ OwnS w B h.v1 h.old ∧ OwnS w B h.v2 h.new
  apart : ∀ k, h.v1.ownBlock = some k → h.v2.ownBlock ≠ some k
  ty : ∀ x ∈ hs, Typed w x.a1 x.old ∧ Typed w x.a2 x.new
  pos : ∀ x ∈ hs, 0 ≤ x.at_
  lo : 0 ≤ h.at_
  hi : h.at_ ≤ 100000

theorem grown_set (w : World) (g i : Nat) (v : Value) : w.grownBy (w.setCell ⟨g, i, none⟩ v) (some g) :=
  ⟨rfl, rfl, rfl, by simp [World.setCell], fun k _ hne => Below.heap_setCell w _ v k (fun e => hne (by simp [e]))⟩
theorem grown_trans {a b c : World} {row : Option Nat} (h : a.grownBy b row) (k : b.grownBy c row) : a.grownBy c row :=
  ⟨k.os.trans h.os, k.tape.trans h.tape, k.output.trans h.output, Nat.le_trans h.size k.size, fun i hi hne => (k.block i (Nat.lt_of_lt_of_le hi h.size) hne).trans (h.block i hi hne)⟩
section
variable {w w' : World} {G : Nat} {h : Hm}
theorem HunkAt.set0 (k : HunkAt w G h) (n : Int) : HunkAt (w.setCell ⟨G, 0, none⟩ (.int .i64 n)) G { h with at_ := n } := by
  unfold HunkAt at k ⊢
  simp [World.setCell, Array.getElem?_modify, k, Hm.cells]
theorem HunkAt.set1 (k : HunkAt w G h) (A : Option Addr) (l : List (List UInt8)) (c n : Nat) (hn : n = l.length) : HunkAt (w.setCell ⟨G, 1, none⟩ (.slice A n c)) G { h with a1 := A, old := l, c1 := c } := by
  subst hn
  unfold HunkAt at k ⊢
  simp [World.setCell, Array.getElem?_modify, k, Hm.cells]
theorem HunkAt.set2 (k : HunkAt w G h) (A : Option Addr) (l : List (List UInt8)) (c n : Nat) (hn : n = l.length) : HunkAt (w.setCell ⟨G, 2, none⟩ (.slice A n c)) G { h with a2 := A, new := l, c2 := c } := by
  subst hn
  unfold HunkAt at k ⊢
  simp [World.setCell, Array.getElem?_modify, k, Hm.cells]
theorem HunkAt.not_str (k : HunkAt w G h) (off : Nat) (s : ByteArray) : w.cell? ⟨G, off, none⟩ ≠ some (.string s) := by
  intro e
  simp only [World.cell?, show w.heap[G]? = _ from k, Hm.cells] at e
  match off, e with
  | 0, e => simp at e
  | 1, e => simp at e
  | 2, e => simp at e
  | n + 3, e => simp at e
theorem Strs.grown {B : Nat} {A : Option Addr} {ss : List ByteArray} {row : Option Nat} (s : Strs w B A ss) (hg : w.grownBy w' row) (hr : ∀ g, row = some g → B ≤ g ∨ ∃ h, HunkAt w g h) : Strs w' B A ss := fun hp => by
  obtain ⟨b, off, e, hlt, hc⟩ := s hp
  have hb : b < w.heap.size := by
    have := hc 0 hp
    unfold World.cell? at this
    rcases Nat.lt_or_ge b w.heap.size with h1 | h1
    · exact h1
    · rw [Array.getElem?_eq_none h1] at this; simp at this
  have hne : row ≠ some b := by
    intro hr'
    rcases hr b hr' with h1 | ⟨h, h1⟩
    · omega
    · exact h1.not_str _ _ (hc 0 hp)
  refine ⟨b, off, e, hlt, fun j hj => ?_⟩
  have := hc j hj
  unfold World.cell? at this ⊢
  rw [hg.block b hb (fun e => hne e.symm)]
  exact this
theorem Typed.grown {A : Option Addr} {ls : List (List UInt8)} {row : Option Nat} (t : Typed w A ls) (hg : w.grownBy w' row) (hr : ∀ g, row = some g → (∃ h, HunkAt w g h) ∨ (∃ B v hs, OwnH w B v hs ∧ v.ownBlock = some g) ∨ ∃ B, Strs w B A (toBs ls) ∧ B ≤ g) : Typed w' A ls := fun hp => by
  obtain ⟨b, off, cur, fz, e, hb⟩ := t hp
  have hne : row ≠ some b := by
    intro hr'
    rcases hr b hr' with ⟨h, h1⟩ | ⟨B, v, hs, h1, h2⟩ | ⟨B, h1, h2⟩
    · rw [show w.heap[b]? = _ from h1] at hb
      simp only [Option.some.injEq, Obj.cells.injEq] at hb
      exact absurd hb.2.1 (by decide)
    · rcases h1.2 with ⟨rfl, _⟩ | ⟨g1, c1, cur1, rfl, _, hg1, _⟩
      · simp [Value.ownBlock] at h2
      · simp only [Value.ownBlock, Option.some.injEq] at h2
        subst h2
        rw [hg1] at hb
        simp only [Option.some.injEq, Obj.cells.injEq] at hb
        exact absurd hb.2.1 (by decide)
    · obtain ⟨b2, off2, e2, hlt, _⟩ := h1 (by rw [toBs_len]; exact hp)
      rw [e] at e2
      cases e2
      omega
  exact ⟨b, off, cur, fz, e, (hg.block b (Array.getElem?_eq_some_iff.1 hb).1 (fun e => hne e.symm)).trans hb⟩
theorem OwnS.typed {B n c : Nat} {A : Option Addr} {ls : List (List UInt8)} (o : OwnS w B (.slice A n c) ls) : Typed w A ls := fun hp => by
  rcases o.2 with ⟨_, h0⟩ | ⟨g2, c2, cur2, he, _, hg2, _⟩
  · omega
  · simp only [Value.slice.injEq] at he
    exact ⟨g2, 0, cur2, _, he.1, hg2⟩
/-- Strings in a block of strings stay where another block grows. -/
theorem Strs.typedGrown {B : Nat} {A : Option Addr} {ls : List (List UInt8)} {row : Option Nat} (s : Strs w B A (toBs ls)) (t : Typed w A ls) (hg : w.grownBy w' row) (hr : ∀ g, row = some g → ∃ B v hs, OwnH w B v hs ∧ v.ownBlock = some g) : Strs w' B A (toBs ls) := fun hp => by
  obtain ⟨b, off, e, hlt, hc⟩ := s hp
  obtain ⟨b2, off2, cur, fz, e2, hb⟩ := t (by rw [toBs_len] at hp; exact hp)
  rw [e] at e2
  cases e2
  have hne : row ≠ some b := by
    intro hr'
    obtain ⟨B, v, hs, h1, h2⟩ := hr b hr'
    rcases h1.2 with ⟨rfl, _⟩ | ⟨g1, c1, cur1, rfl, _, hg1, _⟩
    · simp [Value.ownBlock] at h2
    · simp only [Value.ownBlock, Option.some.injEq] at h2
      subst h2
      rw [hg1] at hb
      simp only [Option.some.injEq, Obj.cells.injEq] at hb
      exact absurd hb.2.1 (by decide)
  refine ⟨b, off, e, hlt, fun j hj => ?_⟩
  have := hc j hj
  unfold World.cell? at this ⊢
  rw [hg.block b (Array.getElem?_eq_some_iff.1 hb).1 (fun e => hne e.symm)]
  exact this
theorem Hm.Ok.grown {x : Hm} {B : Nat} {row : Option Nat} (k : x.Ok w B) (hg : w.grownBy w' row) (hr : ∀ g, row = some g → B ≤ g ∨ ∃ h, HunkAt w g h) : x.Ok w' B :=
  ⟨k.old.grown hg hr, k.new.grown hg hr, k.r1, k.r2, k.lo, k.hi, k.n1, k.n2⟩
theorem OwnH.kept {B : Nat} {v : Value} {hs : List Hm} {row : Option Nat} (o : OwnH w B v hs) (hg : w.grownBy w' row) (hr : ∀ g, row = some g → v.ownBlock ≠ some g) : OwnH w' B v hs :=
  World.ownsRow.kept o hg (by
    cases hv : v.ownBlock with
    | none => exact .inl rfl
    | some k => exact .inr fun e => hr k e.symm (by rw [hv]))
theorem OwnS.keptBy {B : Nat} {v : Value} {ls : List (List UInt8)} {row : Option Nat} (o : OwnS w B v ls) (hg : w.grownBy w' row) (hr : ∀ g, row = some g → v.ownBlock ≠ some g) : OwnS w' B v ls :=
  World.ownsRow.kept o hg (by
    cases hv : v.ownBlock with
    | none => exact .inl rfl
    | some k => exact .inr fun e => hr k e.symm (by rw [hv]))
theorem OwnH.lt {B k : Nat} {v : Value} {hs : List Hm} (o : OwnH w B v hs) (hk : v.ownBlock = some k) : B ≤ k := (World.ownsRow.lt o k hk).1
theorem below_none {w w' : World} (hb : Below w.heap.size w w') : w.grownBy w' none := ⟨hb.os, hb.tape, hb.output, hb.size, fun i hi _ => hb.block i hi⟩
end
/-- A new hunk is begun. -/
theorem Walking.reset {w : World} {G : Nat} {o : Value} {hs : List Hm} {h : Hm} (own : OwnH w (G + 1) o hs) (at_ : HunkAt w G h) (ok : ∃ B, (∀ x ∈ hs, x.Ok w B) ∧ B ≤ w.heap.size ∧ G + 1 ≤ B) (ty : ∀ x ∈ hs, Typed w x.a1 x.old ∧ Typed w x.a2 x.new) (pos : ∀ x ∈ hs, 0 ≤ x.at_) (n : Int) (h0 : 0 ≤ n) (h1 : n ≤ 100000) :
    Walking (((w.setCell ⟨G, 0, none⟩ (.int .i64 n)).setCell ⟨G, 1, none⟩ (.slice none 0 0)).setCell ⟨G, 2, none⟩ (.slice none 0 0)) G o hs ⟨n, none, 0, [], none, 0, []⟩ := by
  have hg : w.grownBy (((w.setCell ⟨G, 0, none⟩ (.int .i64 n)).setCell ⟨G, 1, none⟩ (.slice none 0 0)).setCell ⟨G, 2, none⟩ (.slice none 0 0)) (some G) :=
    grown_trans (grown_trans (grown_set w G 0 _) (grown_set _ G 1 _)) (grown_set _ G 2 _)
  obtain ⟨B, hok, hB, hG⟩ := ok
  refine ⟨own.kept hg fun g e hv => ?_, ((at_.set0 n).set1 none [] 0 0 rfl).set2 none [] 0 0 rfl, ⟨B, fun x hx => (hok x hx).grown hg fun g e => ?_, Nat.le_trans hB hg.size, hG, OwnS.nil _ _, OwnS.nil _ _⟩, fun k h => (by simp [Hm.v1, Value.ownBlock] at h), fun x hx => ⟨(ty x hx).1.grown hg fun g e => .inl ?_, (ty x hx).2.grown hg fun g e => .inl ?_⟩, pos, h0, h1⟩
  · have := own.lt hv
    simp only [Option.some.injEq] at e
    omega
  · simp only [Option.some.injEq] at e
    subst e
    exact .inr ⟨h, at_⟩
  · simp only [Option.some.injEq] at e
    subst e
    exact ⟨h, at_⟩
  · simp only [Option.some.injEq] at e
    subst e
    exact ⟨h, at_⟩
/-- What is known of a walk, behind blocks that are new. -/
theorem Walking.on {w w' : World} {G : Nat} {o : Value} {hs : List Hm} {h : Hm} (k : Walking w G o hs h) (hb : Below w.heap.size w w') : Walking w' G o hs h := by
  obtain ⟨B, hok, hB, hG, h1, h2⟩ := k.rows
  exact ⟨k.own.kept (below_none hb) (fun g e => by cases e), k.at_.on hb, ⟨B, fun x hx => (hok x hx).grown (below_none hb) (fun g e => by cases e), Nat.le_trans hB hb.size, hG, h1.kept hb, h2.kept hb⟩, k.apart, fun x hx => ⟨(k.ty x hx).1.grown (below_none hb) (fun g e => by cases e), (k.ty x hx).2.grown (below_none hb) (fun g e => by cases e)⟩, k.pos, k.lo, k.hi⟩
theorem Walking.hok {w : World} {G : Nat} {o : Value} {hs : List Hm} {h : Hm} (k : Walking w G o hs h) (hl : h.old.length ≤ 100000) (hl2 : h.new.length ≤ 100000) : h.Ok w w.heap.size := by
  obtain ⟨B, hok, hB, hG, h1, h2⟩ := k.rows
  obtain ⟨s1, r1, _⟩ := h1.at_
  obtain ⟨s2, r2, _⟩ := h2.at_
  have l1 := k.lo
  have l2 := k.hi
  exact ⟨s1, s2, r1, r2, by omega, by omega, by omega, by omega⟩
/-- The open hunk comes behind the others. -/
theorem Walking.flush {w w' : World} {G : Nat} {o : Value} {hs : List Hm} {h : Hm} (k : Walking w G o hs h) (hl : h.old.length ≤ 100000) (hl2 : h.new.length ≤ 100000) (hg : w.grownBy w' o.ownBlock) :
    HunkAt w' G h ∧ (∃ B, (∀ x ∈ hs ++ [h], x.Ok w' B) ∧ B ≤ w'.heap.size ∧ G + 1 ≤ B) ∧ (∀ x ∈ hs ++ [h], Typed w' x.a1 x.old ∧ Typed w' x.a2 x.new) ∧ ∀ x ∈ hs ++ [h], 0 ≤ x.at_ := by
  have hk := k.hok hl hl2
  obtain ⟨B, hok, hB, hG, h1, h2⟩ := k.rows
  have hrow : ∀ g, o.ownBlock = some g → ∃ B v hs, OwnH w B v hs ∧ v.ownBlock = some g := fun g e => ⟨_, _, _, k.own, e⟩
  have hty : ∀ x ∈ hs ++ [h], x.Ok w w.heap.size ∧ Typed w x.a1 x.old ∧ Typed w x.a2 x.new ∧ 0 ≤ x.at_ := by
    intro x hx
    rcases List.mem_append.1 hx with hx | hx
    · exact ⟨(hok x hx).more hB, (k.ty x hx).1, (k.ty x hx).2, k.pos x hx⟩
    · simp only [List.mem_singleton] at hx
      subst hx
      exact ⟨hk, h1.typed, h2.typed, k.lo⟩
  refine ⟨k.at_.grown hg fun e => ?_, ⟨w.heap.size, fun x hx => ?_, hg.size, Nat.le_trans hG hB⟩, fun x hx => ?_, fun x hx => (hty x hx).2.2.2⟩
  · have := k.own.lt e
    omega
  · obtain ⟨o1, t1, t2, _⟩ := hty x hx
    exact ⟨o1.old.typedGrown t1 hg hrow, o1.new.typedGrown t2 hg hrow, o1.r1, o1.r2, o1.lo, o1.hi, o1.n1, o1.n2⟩
  · obtain ⟨_, t1, t2, _⟩ := hty x hx
    exact ⟨t1.grown hg fun g e => .inr (.inl (hrow g e)), t2.grown hg fun g e => .inr (.inl (hrow g e))⟩
/-- A line more goes. -/
theorem Walking.goes {w w' : World} {G B g c : Nat} {o : Value} {hs : List Hm} {h : Hm} {s : List UInt8} (k : Walking w G o hs h) (hok : ∀ x ∈ hs, x.Ok w B) (hB : B ≤ w.heap.size) (hG : G + 1 ≤ B) (h1 : OwnS w B h.v1 h.old) (h2 : OwnS w B h.v2 h.new)
    (ho : OwnS w' B (.slice (some ⟨g, 0, none⟩) (h.old.length + 1) c) (h.old ++ [s])) (hg : w.grownBy w' h.v1.ownBlock) (hat : h.v1.ownBlock = some g ∨ g = w.heap.size) :
    Walking (w'.setCell ⟨G, 1, none⟩ (.slice (some ⟨g, 0, none⟩) (h.old.length + 1) c)) G o hs { h with a1 := some ⟨g, 0, none⟩, old := h.old ++ [s], c1 := c } := by
  have hs1 := grown_set w' G 1 (.slice (some ⟨g, 0, none⟩) (h.old.length + 1) c)
  have hge : ∀ j, h.v1.ownBlock = some j → B ≤ j := fun j e => ownBlock_ge h1 j e
  have at1 : HunkAt w' G h := k.at_.grown hg (k.at_.ne_strs h1)
  have own1 : OwnH w' (G + 1) o hs := k.own.kept hg fun j e => k.own.ne_strs h1 j e
  have new1 : OwnS w' B h.v2 h.new := h2.keptBy hg fun j e => k.apart j e
  have hGlt : ∀ j, some G = some j → j = G := fun j e => by simp only [Option.some.injEq] at e; omega
  refine ⟨own1.kept hs1 fun j e hv => ?_, at1.set1 _ _ _ _ (by simp), ⟨B, fun x hx => ((hok x hx).grown hg fun j e => .inl (hge j e)).grown hs1 fun j e => ?_, Nat.le_trans hB (Nat.le_trans hg.size hs1.size), hG, ?_, ?_⟩, ?_, fun x hx => ?_, k.pos, k.lo, k.hi⟩
  · have := own1.lt hv
    have := hGlt j e
    omega
  · have := hGlt j e
    subst this
    exact .inr ⟨h, at1⟩
  · have := ho.keptBy hs1 fun j e => by rw [hGlt j e]; exact at1.ne_strs ho
    simpa [Hm.v1] using this
  · exact new1.keptBy hs1 fun j e => by rw [hGlt j e]; exact at1.ne_strs new1
  · intro j hj
    simp only [Hm.v1, Value.ownBlock, Option.some.injEq] at hj
    subst hj
    rcases hat with hat | rfl
    · exact k.apart g hat
    · intro e
      have := (World.ownsRow.lt h2 _ e).2
      omega
  · obtain ⟨t1, t2⟩ := k.ty x hx
    have u1 := t1.grown hg fun j e => .inr (.inr ⟨B, (hok x hx).old, hge j e⟩)
    have u2 := t2.grown hg fun j e => .inr (.inr ⟨B, (hok x hx).new, hge j e⟩)
    exact ⟨u1.grown hs1 fun j e => .inl (by rw [hGlt j e]; exact ⟨h, at1⟩), u2.grown hs1 fun j e => .inl (by rw [hGlt j e]; exact ⟨h, at1⟩)⟩
/-- A line more comes. -/
theorem Walking.comes {w w' : World} {G B g c : Nat} {o : Value} {hs : List Hm} {h : Hm} {s : List UInt8} (k : Walking w G o hs h) (hok : ∀ x ∈ hs, x.Ok w B) (hB : B ≤ w.heap.size) (hG : G + 1 ≤ B) (h1 : OwnS w B h.v1 h.old) (h2 : OwnS w B h.v2 h.new)
    (ho : OwnS w' B (.slice (some ⟨g, 0, none⟩) (h.new.length + 1) c) (h.new ++ [s])) (hg : w.grownBy w' h.v2.ownBlock) (hat : h.v2.ownBlock = some g ∨ g = w.heap.size) :
    Walking (w'.setCell ⟨G, 2, none⟩ (.slice (some ⟨g, 0, none⟩) (h.new.length + 1) c)) G o hs { h with a2 := some ⟨g, 0, none⟩, new := h.new ++ [s], c2 := c } := by
  have hs1 := grown_set w' G 2 (.slice (some ⟨g, 0, none⟩) (h.new.length + 1) c)
  have hge : ∀ j, h.v2.ownBlock = some j → B ≤ j := fun j e => ownBlock_ge h2 j e
  have at1 : HunkAt w' G h := k.at_.grown hg (k.at_.ne_strs h2)
  have own1 : OwnH w' (G + 1) o hs := k.own.kept hg fun j e => k.own.ne_strs h2 j e
  have old1 : OwnS w' B h.v1 h.old := h1.keptBy hg fun j e hv => k.apart j hv e
  have hGlt : ∀ j, some G = some j → j = G := fun j e => by simp only [Option.some.injEq] at e; omega
  refine ⟨own1.kept hs1 fun j e hv => ?_, at1.set2 _ _ _ _ (by simp), ⟨B, fun x hx => ((hok x hx).grown hg fun j e => .inl (hge j e)).grown hs1 fun j e => ?_, Nat.le_trans hB (Nat.le_trans hg.size hs1.size), hG, ?_, ?_⟩, ?_, fun x hx => ?_, k.pos, k.lo, k.hi⟩
  · have := own1.lt hv
    have := hGlt j e
    omega
  · have := hGlt j e
    subst this
    exact .inr ⟨h, at1⟩
  · exact old1.keptBy hs1 fun j e => by rw [hGlt j e]; exact at1.ne_strs old1
  · have := ho.keptBy hs1 fun j e => by rw [hGlt j e]; exact at1.ne_strs ho
    simpa [Hm.v2] using this
  · intro j hj e
    simp only [Hm.v2, Value.ownBlock, Option.some.injEq] at e
    subst e
    rcases hat with hat | rfl
    · exact k.apart g hj hat
    · have := (World.ownsRow.lt h1 _ hj).2
      omega
  · obtain ⟨t1, t2⟩ := k.ty x hx
    have u1 := t1.grown hg fun j e => .inr (.inr ⟨B, (hok x hx).old, hge j e⟩)
    have u2 := t2.grown hg fun j e => .inr (.inr ⟨B, (hok x hx).new, hge j e⟩)
    exact ⟨u1.grown hs1 fun j e => .inl (by rw [hGlt j e]; exact ⟨h, at1⟩), u2.grown hs1 fun j e => .inl (by rw [hGlt j e]; exact ⟨h, at1⟩)⟩
theorem Walking.goesAt {w : World} {G B : Nat} {o : Value} {hs : List Hm} {h : Hm} (k : Walking w G o hs h) (hok : ∀ x ∈ hs, x.Ok w B) (hB : B ≤ w.heap.size) (hG : G + 1 ≤ B) (h1 : OwnS w B h.v1 h.old) (h2 : OwnS w B h.v2 h.new) (str : List UInt8) (q g c : Nat) (w2 : World)
    (ho : w2.ownsRow B 9 1 (.slice (some ⟨g, 0, none⟩) (h.old.length + 1) c) (h.old.length + 1) (h.old.map encStr ++ [.string (toB str)])) (hg : ((w.drewN q).alloc (.cells #[.string (toB str)] 9)).grownBy w2 h.v1.ownBlock)
    (hat : h.v1.ownBlock = some g ∨ g = ((w.drewN q).alloc (.cells #[.string (toB str)] 9)).heap.size) :
    (Walking (w2.setCell ⟨G, 1, none⟩ (.slice (some ⟨g, 0, none⟩) (h.old.length + 1) c)) G o hs { h with a1 := some ⟨g, 0, none⟩, old := h.old ++ [str], c1 := c } ∧ Below G w (w2.setCell ⟨G, 1, none⟩ (.slice (some ⟨g, 0, none⟩) (h.old.length + 1) c))) ∧ w2.frozen? ⟨G, 1, none⟩ = false ∧ w2.cell? ⟨G, 1, none⟩ = some (.slice h.a1 h.old.length h.c1) := by
  have hb : Below w.heap.size w ((w.drewN q).alloc (.cells #[.string (toB str)] 9)) := (below_drewN (Below.refl _ _) q).alloc (Nat.le_refl _) _
  have kW := k.on hb
  have ho' : OwnS w2 B (.slice (some ⟨g, 0, none⟩) (h.old.length + 1) c) (h.old ++ [str]) := by
    unfold OwnS
    rw [List.length_append, List.map_append]
    exact ho
  have hkk := Walking.goes kW (fun x hx => ((hok x hx).grown (below_none hb) (fun g e => by cases e))) (Nat.le_trans hB hb.size) hG (h1.kept hb) (h2.kept hb) ho' hg hat
  have at2 : HunkAt w2 G h := kW.at_.grown hg (kW.at_.ne_strs (h1.kept hb))
  have hGlt := k.at_.lt
  refine ⟨⟨hkk, ?_⟩, at2.f 1, at2.c1⟩
  have hb2 : Below G w w2 := ((below_drewN (Below.refl G w) q).alloc (by show G ≤ w.heap.size; omega) _).grown hg (by show G ≤ ((w.drewN q).alloc _).heap.size; simp; omega) fun j hj => by
    have := ownBlock_ge h1 j hj
    omega
  exact hb2.setCell (Nat.le_refl _) _
theorem Walking.comesAt {w : World} {G B : Nat} {o : Value} {hs : List Hm} {h : Hm} (k : Walking w G o hs h) (hok : ∀ x ∈ hs, x.Ok w B) (hB : B ≤ w.heap.size) (hG : G + 1 ≤ B) (h1 : OwnS w B h.v1 h.old) (h2 : OwnS w B h.v2 h.new) (str : List UInt8) (q g c : Nat) (w2 : World)
    (ho : w2.ownsRow B 9 1 (.slice (some ⟨g, 0, none⟩) (h.new.length + 1) c) (h.new.length + 1) (h.new.map encStr ++ [.string (toB str)])) (hg : ((w.drewN q).alloc (.cells #[.string (toB str)] 9)).grownBy w2 h.v2.ownBlock)
    (hat : h.v2.ownBlock = some g ∨ g = ((w.drewN q).alloc (.cells #[.string (toB str)] 9)).heap.size) :
    (Walking (w2.setCell ⟨G, 2, none⟩ (.slice (some ⟨g, 0, none⟩) (h.new.length + 1) c)) G o hs { h with a2 := some ⟨g, 0, none⟩, new := h.new ++ [str], c2 := c } ∧ Below G w (w2.setCell ⟨G, 2, none⟩ (.slice (some ⟨g, 0, none⟩) (h.new.length + 1) c))) ∧ w2.frozen? ⟨G, 2, none⟩ = false ∧ w2.cell? ⟨G, 2, none⟩ = some (.slice h.a2 h.new.length h.c2) := by
  have hb : Below w.heap.size w ((w.drewN q).alloc (.cells #[.string (toB str)] 9)) := (below_drewN (Below.refl _ _) q).alloc (Nat.le_refl _) _
  have kW := k.on hb
  have ho' : OwnS w2 B (.slice (some ⟨g, 0, none⟩) (h.new.length + 1) c) (h.new ++ [str]) := by
    unfold OwnS
    rw [List.length_append, List.map_append]
    exact ho
  have hkk := Walking.comes kW (fun x hx => ((hok x hx).grown (below_none hb) (fun g e => by cases e))) (Nat.le_trans hB hb.size) hG (h1.kept hb) (h2.kept hb) ho' hg hat
  have at2 : HunkAt w2 G h := kW.at_.grown hg (kW.at_.ne_strs (h2.kept hb))
  have hGlt := k.at_.lt
  refine ⟨⟨hkk, ?_⟩, at2.f 2, at2.c2⟩
  have hb2 : Below G w w2 := ((below_drewN (Below.refl G w) q).alloc (by show G ≤ w.heap.size; omega) _).grown hg (by show G ≤ ((w.drewN q).alloc _).heap.size; simp; omega) fun j hj => by
    have := ownBlock_ge h2 j hj
    omega
  exact hb2.setCell (Nat.le_refl _) _
end Go.Proofs.YtknommnlkdlkdaaDoor
