/- The statements' Light of layer 3 (other layers call it too). The reference's Same of layer 4; the statements' Light of hunks. Rows of hunks that a call makes: append. The state of a walk through two lists: the hunks so far, and the hunk that is open. Package diff's hunk: a hunk that shares no memory with the lists that it is of. Words for memory: rows of numbers, and rows of rows. The reference's Alike of layer 4: the table of how much is alike. Package diff's Check. Words for a step's cells. -/
import Derived.WalkKit
import Derived.Handy
import Derived.Lib.Hide
import Derived.BigQuiet
import Derived.Deep.QuietTactic
import Derived.Deep.AppendLies
import Derived.Test.YtalabahjfmcnbaaGreatDoorShelf
import Derived.Laws.Rows
import Derived.Laws.ResultCell
import Derived.BigRegion
import Derived.StillTailTactics
import Derived.IntWalk
import Derived.Test.YtalabahjfmcnbaaGreatDoorCk05
namespace Go.Proofs.YtalabahjfmcnbaaGreatDoor
open Go.RowKit
set_option linter.unusedVariables false

/-- Texts that are not far too many. -/
def light3B (ss : List ByteArray) : Bool := ss.all (fun s => decide (s.size ≤ 300)) && decide (ss.length ≤ 60)
theorem light3B_no {ss : List ByteArray} {k : Nat} (hk : k < ss.length) (h : 300 < ss[k].size) : light3B ss = false := by
  have : ¬ ss.all (fun s => decide (s.size ≤ 300)) = true := by
    rw [List.all_eq_true]
    intro ha
    have := ha ss[k] (List.getElem_mem _)
    simp at this
    omega
  unfold light3B
  rw [Bool.not_eq_true] at this
  rw [this]; simp
theorem light3B_yes {ss : List ByteArray} (h : ∀ j (hj : j < ss.length), ss[j].size ≤ 300) : light3B ss = decide (ss.length ≤ 60) := by
  unfold light3B
  have : ss.all (fun s => decide (s.size ≤ 300)) = true := by
    rw [List.all_eq_true]
    intro s hs
    obtain ⟨j, hj, rfl⟩ := List.getElem_of_mem hs
    simpa using h j hj
  rw [this]; simp
theorem light3B_len {ss : List ByteArray} (h : light3B ss = true) : ss.length ≤ 60 := by
  unfold light3B at h
  simp at h
  exact h.2

set_option maxRecDepth 100000 in
theorem light3_any (A : Option Addr) (ss : List ByteArray) (cap : Nat) (w : World) (hs : Strs w w.heap.size A ss) (hn : ss.length ≤ 9223372036854775807) :
    Calls Tryz.prog 27 #[.slice A ss.length cap] w fun e w' => e = .returned (.bool (light3B ss)) ∧ w = w' := by
  go_enter Tryz.func27, Tryz.ntmps27
  go_wp2
  go_loop [3] (fun i => ∃ k : Nat, k ≤ ss.length ∧ i = .int .i64 (k : Int) ∧ Hid (∀ j (hj : j < ss.length), j < k → ss[j].size ≤ 300)) (fun i => ss.length - (intOf i).toNat)
  case atStart => exact ⟨0, Nat.zero_le _, rfl, fun j _ h => absurd h (by omega)⟩
  case round =>
    obtain ⟨k, hk, rfl, hall⟩ := hrel
    by_cases hlt : k < ss.length
    · obtain ⟨g, off, rfl, hg, hc⟩ := hs.at_ hlt
      have hno := Lib.hid (light3B_no hlt)
      have hyes : Hid (((ss[k].size : Int) ≤ 300) → ∀ j (hj : j < ss.length), j < k + 1 → ss[j].size ≤ 300) := by
        intro h j hj hjk
        by_cases he : j = k
        · subst he; omega
        · exact hall.out j hj (by omega)
      generalize ss[k] = s at *
      clear hs hall
      by_cases h3 : 300 < s.size
      · have hno2 := Lib.hid (hno.out (by omega))
        clear hno hyes
        go_wp2
        go_ret
        rw [hno2.out]
        exact ⟨rfl, rfl⟩
      · have hyes2 := Lib.hid (hyes.out (by omega))
        clear hno hyes
        go_wp2
        go_round
        case rel => exact ⟨k + 1, by omega, by go_num, hyes2⟩
        case measure => simp [intOf]; omega
    · have hk2 : k = ss.length := by omega
      subst hk2
      have hy := Lib.hid (light3B_yes (fun j hj => hall.out j hj hj))
      clear hall
      go_wp2
      go_ret
      rw [hy.out]
      exact ⟨by simp; omega, rfl⟩
end Go.Proofs.YtalabahjfmcnbaaGreatDoor
namespace Go.Proofs.YtalabahjfmcnbaaGreatDoor
open Go.RowKit
set_option linter.unusedVariables false

/-- What a hunk says. -/
def Hm.key (h : Hm) : Int × List (List UInt8) × List (List UInt8) := (h.at_, h.old, h.new)
def keys (hs : List Hm) : List (Int × List (List UInt8) × List (List UInt8)) := hs.map Hm.key
/-- Lists of lines that are not far too long. -/
def Small (hs : List Hm) : Prop := hs.length ≤ 1000000 ∧ ∀ h ∈ hs, h.old.length ≤ 1000000 ∧ h.new.length ≤ 1000000
end Go.Proofs.YtalabahjfmcnbaaGreatDoor
namespace Go.Proofs.YtalabahjfmcnbaaGreatDoor
open Go.RowKit
set_option linter.unusedVariables false

def hcells (hs : List Hm) : List Value := hs.flatMap Hm.cells
theorem hcells_get : ∀ (hs : List Hm) (j : Nat) (hj : j < hs.length), (hcells hs)[j * 3]? = some (.int .i64 hs[j].at_) ∧ (hcells hs)[j * 3 + 1]? = some (.slice hs[j].a1 hs[j].old.length hs[j].c1) ∧ (hcells hs)[j * 3 + 2]? = some (.slice hs[j].a2 hs[j].new.length hs[j].c2)
  | h :: hs, 0, hj => ⟨rfl, rfl, rfl⟩
  | h :: hs, j + 1, hj => by
    have ih := hcells_get hs j (by simpa using hj)
    have e : ∀ r, (hcells (h :: hs))[(j + 1) * 3 + r]? = (hcells hs)[j * 3 + r]? := by
      intro r
      have e1 : hcells (h :: hs) = h.cells ++ hcells hs := rfl
      rw [e1, List.getElem?_append_right (by show 3 ≤ _; omega)]
      congr 1
      show _ - 3 = _
      omega
    have e0 := e 0
    rw [Nat.add_zero, Nat.add_zero] at e0
    rw [e0, e 1, e 2]
    exact ih
/-- A slice of hunks that the call made. -/
def OwnH (w : World) (B : Nat) (v : Value) (hs : List Hm) : Prop := w.ownsRow B 171 3 v hs.length (hcells hs)
theorem OwnH.nil (w : World) (B : Nat) : OwnH w B (.slice none 0 0) [] := w.ownsRow_nil B 171 3
theorem OwnH.hks {w : World} {B : Nat} {v : Value} {hs : List Hm} (h : OwnH w B v hs) (hok : ∀ h ∈ hs, h.Ok w w.heap.size) : ∃ A cap, v = .slice A hs.length cap ∧ Hks w w.heap.size A hs ∧ Room A hs.length cap := by
  have h' := h
  rcases h.2 with ⟨rfl, h0⟩ | ⟨g, cap, cur, rfl, _, hg, hcap, _⟩
  · have e : hs = [] := List.length_eq_zero_iff.1 h0
    subst e
    exact ⟨none, 0, rfl, Hks.nil, fun _ => rfl, Nat.le_refl _⟩
  · refine ⟨_, cap, rfl, ⟨fun hp => ⟨g, 0, rfl, (Array.getElem?_eq_some_iff.1 hg).1, fun j hj => ?_⟩, hok⟩, (fun e => by cases e), hcap⟩
    obtain ⟨c0, c1, c2⟩ := hcells_get hs j hj
    have e : ∀ i, (⟨g, 0, none⟩ : Addr).add i = ⟨g, i, none⟩ := fun i => by unfold Addr.add; split <;> simp_all
    have k0 := h'.cells (g := g) rfl _ _ c0
    have k1 := h'.cells (g := g) rfl _ _ c1
    have k2 := h'.cells (g := g) rfl _ _ c2
    rw [e] at k0 k1 k2
    rw [Nat.zero_add]
    exact ⟨k0, k1, k2⟩
theorem OwnH.ne_strs {w : World} {B B2 : Nat} {v u : Value} {hs : List Hm} {ls : List (List UInt8)} (h : OwnH w B v hs) (g : OwnS w B2 u ls) : ∀ k, u.ownBlock = some k → v.ownBlock ≠ some k := by
  intro k hk hv
  rcases h.2 with ⟨rfl, _⟩ | ⟨g1, c1, cur1, rfl, _, hg1, _⟩
  · simp [Value.ownBlock] at hv
  · rcases g.2 with ⟨rfl, _⟩ | ⟨g2, c2, cur2, rfl, _, hg2, _⟩
    · simp [Value.ownBlock] at hk
    · simp only [Value.ownBlock, Option.some.injEq] at hk hv
      subst hk hv
      rw [hg1] at hg2
      simp only [Option.some.injEq, Obj.cells.injEq] at hg2
      exact absurd hg2.2.1 (by decide)
theorem HunkAt.ne_strs {w : World} {g B : Nat} {h : Hm} {v : Value} {ls : List (List UInt8)} (k : HunkAt w g h) (o : OwnS w B v ls) : v.ownBlock ≠ some g := by
  intro hv
  rcases o.2 with ⟨rfl, _⟩ | ⟨g2, c2, cur2, rfl, _, hg2, _⟩
  · simp [Value.ownBlock] at hv
  · simp only [Value.ownBlock, Option.some.injEq] at hv
    subst hv
    rw [show w.heap[g2]? = _ from k] at hg2
    simp only [Option.some.injEq, Obj.cells.injEq] at hg2
    exact absurd hg2.2.1 (by decide)
end Go.Proofs.YtalabahjfmcnbaaGreatDoor
namespace Go.Proofs.YtalabahjfmcnbaaGreatDoor
open Go.RowKit
set_option linter.unusedVariables false

def Hm.v1 (h : Hm) : Value := .slice h.a1 h.old.length h.c1
def Hm.v2 (h : Hm) : Value := .slice h.a2 h.new.length h.c2
/-- Lines lie in a block of strings. -/
def Typed (w : World) (A : Option Addr) (ls : List (List UInt8)) : Prop := 0 < ls.length → ∃ b off cur fz, A = some ⟨b, off, none⟩ ∧ w.heap[b]? = some (.cells cur 9 fz)
/-- The hunks so far, and the hunk that is open, in block G. -/
structure Walking (w : World) (G : Nat) (o : Value) (hs : List Hm) (h : Hm) : Prop where
  own : OwnH w (G + 1) o hs
  at_ : HunkAt w G h
  rows : ∃ B, (∀ x ∈ hs, x.Ok w B) ∧ B ≤ w.heap.size ∧ G + 1 ≤ B ∧ OwnS w B h.v1 h.old ∧ OwnS w B h.v2 h.new
  apart : ∀ k, h.v1.ownBlock = some k → h.v2.ownBlock ≠ some k
  ty : ∀ x ∈ hs, Typed w x.a1 x.old ∧ Typed w x.a2 x.new
  pos : ∀ x ∈ hs, 0 ≤ x.at_
  lo : 0 ≤ h.at_
  hi : h.at_ ≤ 100000

theorem grown_set (w : World) (g i : Nat) (v : Value) : w.grownBy (w.setCell ⟨g, i, none⟩ v) (some g) :=
  ⟨rfl, rfl, rfl, by simp [World.setCell], fun k _ hne => Below.heap_setCell w _ v k (fun e => hne (by simp [e]))⟩
section
variable {w w' : World} {G : Nat} {h : Hm}
theorem HunkAt.set1 (k : HunkAt w G h) (A : Option Addr) (l : List (List UInt8)) (c n : Nat) (hn : n = l.length) : HunkAt (w.setCell ⟨G, 1, none⟩ (.slice A n c)) G { h with a1 := A, old := l, c1 := c } := by
  subst hn
  unfold HunkAt at k ⊢
  simp [World.setCell, Array.getElem?_modify, k, Hm.cells]
theorem HunkAt.set2 (k : HunkAt w G h) (A : Option Addr) (l : List (List UInt8)) (c n : Nat) (hn : n = l.length) : HunkAt (w.setCell ⟨G, 2, none⟩ (.slice A n c)) G { h with a2 := A, new := l, c2 := c } := by
  subst hn
  unfold HunkAt at k ⊢
  simp [World.setCell, Array.getElem?_modify, k, Hm.cells]
theorem HunkAt.not_str (k : HunkAt w G h) (off : Nat) (s : ByteArray) : w.cell? ⟨G, off, none⟩ ≠ some (.string s) := by
  intro e
  simp only [World.cell?, show w.heap[G]? = _ from k, Hm.cells] at e
  match off, e with
  | 0, e => simp at e
  | 1, e => simp at e
  | 2, e => simp at e
  | n + 3, e => simp at e
theorem Strs.grown {B : Nat} {A : Option Addr} {ss : List ByteArray} {row : Option Nat} (s : Strs w B A ss) (hg : w.grownBy w' row) (hr : ∀ g, row = some g → B ≤ g ∨ ∃ h, HunkAt w g h) : Strs w' B A ss := fun hp => by
  obtain ⟨b, off, e, hlt, hc⟩ := s hp
  have hb : b < w.heap.size := by
    have := hc 0 hp
    unfold World.cell? at this
    rcases Nat.lt_or_ge b w.heap.size with h1 | h1
    · exact h1
    · rw [Array.getElem?_eq_none h1] at this; simp at this
  have hne : row ≠ some b := by
    intro hr'
    rcases hr b hr' with h1 | ⟨h, h1⟩
    · omega
    · exact h1.not_str _ _ (hc 0 hp)
  refine ⟨b, off, e, hlt, fun j hj => ?_⟩
  have := hc j hj
  unfold World.cell? at this ⊢
  rw [hg.block b hb (fun e => hne e.symm)]
  exact this
theorem Typed.grown {A : Option Addr} {ls : List (List UInt8)} {row : Option Nat} (t : Typed w A ls) (hg : w.grownBy w' row) (hr : ∀ g, row = some g → (∃ h, HunkAt w g h) ∨ (∃ B v hs, OwnH w B v hs ∧ v.ownBlock = some g) ∨ ∃ B, Strs w B A (toBs ls) ∧ B ≤ g) : Typed w' A ls := fun hp => by
  obtain ⟨b, off, cur, fz, e, hb⟩ := t hp
  have hne : row ≠ some b := by
    intro hr'
    rcases hr b hr' with ⟨h, h1⟩ | ⟨B, v, hs, h1, h2⟩ | ⟨B, h1, h2⟩
    · rw [show w.heap[b]? = _ from h1] at hb
      simp only [Option.some.injEq, Obj.cells.injEq] at hb
      exact absurd hb.2.1 (by decide)
    · rcases h1.2 with ⟨rfl, _⟩ | ⟨g1, c1, cur1, rfl, _, hg1, _⟩
      · simp [Value.ownBlock] at h2
      · simp only [Value.ownBlock, Option.some.injEq] at h2
        subst h2
        rw [hg1] at hb
        simp only [Option.some.injEq, Obj.cells.injEq] at hb
        exact absurd hb.2.1 (by decide)
    · obtain ⟨b2, off2, e2, hlt, _⟩ := h1 (by rw [toBs_len]; exact hp)
      rw [e] at e2
      cases e2
      omega
  exact ⟨b, off, cur, fz, e, (hg.block b (Array.getElem?_eq_some_iff.1 hb).1 (fun e => hne e.symm)).trans hb⟩
theorem OwnS.typed {B n c : Nat} {A : Option Addr} {ls : List (List UInt8)} (o : OwnS w B (.slice A n c) ls) : Typed w A ls := fun hp => by
  rcases o.2 with ⟨_, h0⟩ | ⟨g2, c2, cur2, he, _, hg2, _⟩
  · omega
  · simp only [Value.slice.injEq] at he
    exact ⟨g2, 0, cur2, _, he.1, hg2⟩
/-- Strings in a block of strings stay where another block grows. -/
theorem Strs.typedGrown {B : Nat} {A : Option Addr} {ls : List (List UInt8)} {row : Option Nat} (s : Strs w B A (toBs ls)) (t : Typed w A ls) (hg : w.grownBy w' row) (hr : ∀ g, row = some g → ∃ B v hs, OwnH w B v hs ∧ v.ownBlock = some g) : Strs w' B A (toBs ls) := fun hp => by
  obtain ⟨b, off, e, hlt, hc⟩ := s hp
  obtain ⟨b2, off2, cur, fz, e2, hb⟩ := t (by rw [toBs_len] at hp; exact hp)
  rw [e] at e2
  cases e2
  have hne : row ≠ some b := by
    intro hr'
    obtain ⟨B, v, hs, h1, h2⟩ := hr b hr'
    rcases h1.2 with ⟨rfl, _⟩ | ⟨g1, c1, cur1, rfl, _, hg1, _⟩
    · simp [Value.ownBlock] at h2
    · simp only [Value.ownBlock, Option.some.injEq] at h2
      subst h2
      rw [hg1] at hb
      simp only [Option.some.injEq, Obj.cells.injEq] at hb
      exact absurd hb.2.1 (by decide)
  refine ⟨b, off, e, hlt, fun j hj => ?_⟩
  have := hc j hj
  unfold World.cell? at this ⊢
  rw [hg.block b (Array.getElem?_eq_some_iff.1 hb).1 (fun e => hne e.symm)]
  exact this
theorem Hm.Ok.grown {x : Hm} {B : Nat} {row : Option Nat} (k : x.Ok w B) (hg : w.grownBy w' row) (hr : ∀ g, row = some g → B ≤ g ∨ ∃ h, HunkAt w g h) : x.Ok w' B :=
  ⟨k.old.grown hg hr, k.new.grown hg hr, k.r1, k.r2, k.lo, k.hi, k.n1, k.n2⟩
theorem OwnH.kept {B : Nat} {v : Value} {hs : List Hm} {row : Option Nat} (o : OwnH w B v hs) (hg : w.grownBy w' row) (hr : ∀ g, row = some g → v.ownBlock ≠ some g) : OwnH w' B v hs :=
  World.ownsRow.kept o hg (by
    cases hv : v.ownBlock with
    | none => exact .inl rfl
    | some k => exact .inr fun e => hr k e.symm (by rw [hv]))
theorem OwnS.keptBy {B : Nat} {v : Value} {ls : List (List UInt8)} {row : Option Nat} (o : OwnS w B v ls) (hg : w.grownBy w' row) (hr : ∀ g, row = some g → v.ownBlock ≠ some g) : OwnS w' B v ls :=
  World.ownsRow.kept o hg (by
    cases hv : v.ownBlock with
    | none => exact .inl rfl
    | some k => exact .inr fun e => hr k e.symm (by rw [hv]))
theorem OwnH.lt {B k : Nat} {v : Value} {hs : List Hm} (o : OwnH w B v hs) (hk : v.ownBlock = some k) : B ≤ k := (World.ownsRow.lt o k hk).1
theorem below_none {w w' : World} (hb : Below w.heap.size w w') : w.grownBy w' none := ⟨hb.os, hb.tape, hb.output, hb.size, fun i hi _ => hb.block i hi⟩
end
/-- What is known of a walk, behind blocks that are new. -/
theorem Walking.on {w w' : World} {G : Nat} {o : Value} {hs : List Hm} {h : Hm} (k : Walking w G o hs h) (hb : Below w.heap.size w w') : Walking w' G o hs h := by
  obtain ⟨B, hok, hB, hG, h1, h2⟩ := k.rows
  exact ⟨k.own.kept (below_none hb) (fun g e => by cases e), k.at_.on hb, ⟨B, fun x hx => (hok x hx).grown (below_none hb) (fun g e => by cases e), Nat.le_trans hB hb.size, hG, h1.kept hb, h2.kept hb⟩, k.apart, fun x hx => ⟨(k.ty x hx).1.grown (below_none hb) (fun g e => by cases e), (k.ty x hx).2.grown (below_none hb) (fun g e => by cases e)⟩, k.pos, k.lo, k.hi⟩
theorem Walking.hok {w : World} {G : Nat} {o : Value} {hs : List Hm} {h : Hm} (k : Walking w G o hs h) (hl : h.old.length ≤ 100000) (hl2 : h.new.length ≤ 100000) : h.Ok w w.heap.size := by
  obtain ⟨B, hok, hB, hG, h1, h2⟩ := k.rows
  obtain ⟨s1, r1, _⟩ := h1.at_
  obtain ⟨s2, r2, _⟩ := h2.at_
  have l1 := k.lo
  have l2 := k.hi
  exact ⟨s1, s2, r1, r2, by omega, by omega, by omega, by omega⟩
/-- The open hunk comes behind the others. -/
theorem Walking.flush {w w' : World} {G : Nat} {o : Value} {hs : List Hm} {h : Hm} (k : Walking w G o hs h) (hl : h.old.length ≤ 100000) (hl2 : h.new.length ≤ 100000) (hg : w.grownBy w' o.ownBlock) :
    HunkAt w' G h ∧ (∃ B, (∀ x ∈ hs ++ [h], x.Ok w' B) ∧ B ≤ w'.heap.size ∧ G + 1 ≤ B) ∧ (∀ x ∈ hs ++ [h], Typed w' x.a1 x.old ∧ Typed w' x.a2 x.new) ∧ ∀ x ∈ hs ++ [h], 0 ≤ x.at_ := by
  have hk := k.hok hl hl2
  obtain ⟨B, hok, hB, hG, h1, h2⟩ := k.rows
  have hrow : ∀ g, o.ownBlock = some g → ∃ B v hs, OwnH w B v hs ∧ v.ownBlock = some g := fun g e => ⟨_, _, _, k.own, e⟩
  have hty : ∀ x ∈ hs ++ [h], x.Ok w w.heap.size ∧ Typed w x.a1 x.old ∧ Typed w x.a2 x.new ∧ 0 ≤ x.at_ := by
    intro x hx
    rcases List.mem_append.1 hx with hx | hx
    · exact ⟨(hok x hx).more hB, (k.ty x hx).1, (k.ty x hx).2, k.pos x hx⟩
    · simp only [List.mem_singleton] at hx
      subst hx
      exact ⟨hk, h1.typed, h2.typed, k.lo⟩
  refine ⟨k.at_.grown hg fun e => ?_, ⟨w.heap.size, fun x hx => ?_, hg.size, Nat.le_trans hG hB⟩, fun x hx => ?_, fun x hx => (hty x hx).2.2.2⟩
  · have := k.own.lt e
    omega
  · obtain ⟨o1, t1, t2, _⟩ := hty x hx
    exact ⟨o1.old.typedGrown t1 hg hrow, o1.new.typedGrown t2 hg hrow, o1.r1, o1.r2, o1.lo, o1.hi, o1.n1, o1.n2⟩
  · obtain ⟨_, t1, t2, _⟩ := hty x hx
    exact ⟨t1.grown hg fun g e => .inr (.inl (hrow g e)), t2.grown hg fun g e => .inr (.inl (hrow g e))⟩
/-- A line more goes. -/
theorem Walking.goes {w w' : World} {G B g c : Nat} {o : Value} {hs : List Hm} {h : Hm} {s : List UInt8} (k : Walking w G o hs h) (hok : ∀ x ∈ hs, x.Ok w B) (hB : B ≤ w.heap.size) (hG : G + 1 ≤ B) (h1 : OwnS w B h.v1 h.old) (h2 : OwnS w B h.v2 h.new)
    (ho : OwnS w' B (.slice (some ⟨g, 0, none⟩) (h.old.length + 1) c) (h.old ++ [s])) (hg : w.grownBy w' h.v1.ownBlock) (hat : h.v1.ownBlock = some g ∨ g = w.heap.size) :
    Walking (w'.setCell ⟨G, 1, none⟩ (.slice (some ⟨g, 0, none⟩) (h.old.length + 1) c)) G o hs { h with a1 := some ⟨g, 0, none⟩, old := h.old ++ [s], c1 := c } := by
  have hs1 := grown_set w' G 1 (.slice (some ⟨g, 0, none⟩) (h.old.length + 1) c)
  have hge : ∀ j, h.v1.ownBlock = some j → B ≤ j := fun j e => ownBlock_ge h1 j e
  have at1 : HunkAt w' G h := k.at_.grown hg (k.at_.ne_strs h1)
  have own1 : OwnH w' (G + 1) o hs := k.own.kept hg fun j e => k.own.ne_strs h1 j e
  have new1 : OwnS w' B h.v2 h.new := h2.keptBy hg fun j e => k.apart j e
  have hGlt : ∀ j, some G = some j → j = G := fun j e => by simp only [Option.some.injEq] at e; omega
  refine ⟨own1.kept hs1 fun j e hv => ?_, at1.set1 _ _ _ _ (by simp), ⟨B, fun x hx => ((hok x hx).grown hg fun j e => .inl (hge j e)).grown hs1 fun j e => ?_, Nat.le_trans hB (Nat.le_trans hg.size hs1.size), hG, ?_, ?_⟩, ?_, fun x hx => ?_, k.pos, k.lo, k.hi⟩
  · have := own1.lt hv
    have := hGlt j e
    omega
  · have := hGlt j e
    subst this
    exact .inr ⟨h, at1⟩
  · have := ho.keptBy hs1 fun j e => by rw [hGlt j e]; exact at1.ne_strs ho
    simpa [Hm.v1] using this
  · exact new1.keptBy hs1 fun j e => by rw [hGlt j e]; exact at1.ne_strs new1
  · intro j hj
    simp only [Hm.v1, Value.ownBlock, Option.some.injEq] at hj
    subst hj
    rcases hat with hat | rfl
    · exact k.apart g hat
    · intro e
      have := (World.ownsRow.lt h2 _ e).2
      omega
  · obtain ⟨t1, t2⟩ := k.ty x hx
    have u1 := t1.grown hg fun j e => .inr (.inr ⟨B, (hok x hx).old, hge j e⟩)
    have u2 := t2.grown hg fun j e => .inr (.inr ⟨B, (hok x hx).new, hge j e⟩)
    exact ⟨u1.grown hs1 fun j e => .inl (by rw [hGlt j e]; exact ⟨h, at1⟩), u2.grown hs1 fun j e => .inl (by rw [hGlt j e]; exact ⟨h, at1⟩)⟩
/-- A line more comes. -/
theorem Walking.comes {w w' : World} {G B g c : Nat} {o : Value} {hs : List Hm} {h : Hm} {s : List UInt8} (k : Walking w G o hs h) (hok : ∀ x ∈ hs, x.Ok w B) (hB : B ≤ w.heap.size) (hG : G + 1 ≤ B) (h1 : OwnS w B h.v1 h.old) (h2 : OwnS w B h.v2 h.new)
    (ho : OwnS w' B (.slice (some ⟨g, 0, none⟩) (h.new.length + 1) c) (h.new ++ [s])) (hg : w.grownBy w' h.v2.ownBlock) (hat : h.v2.ownBlock = some g ∨ g = w.heap.size) :
    Walking (w'.setCell ⟨G, 2, none⟩ (.slice (some ⟨g, 0, none⟩) (h.new.length + 1) c)) G o hs { h with a2 := some ⟨g, 0, none⟩, new := h.new ++ [s], c2 := c } := by
  have hs1 := grown_set w' G 2 (.slice (some ⟨g, 0, none⟩) (h.new.length + 1) c)
  have hge : ∀ j, h.v2.ownBlock = some j → B ≤ j := fun j e => ownBlock_ge h2 j e
  have at1 : HunkAt w' G h := k.at_.grown hg (k.at_.ne_strs h2)
  have own1 : OwnH w' (G + 1) o hs := k.own.kept hg fun j e => k.own.ne_strs h2 j e
  have old1 : OwnS w' B h.v1 h.old := h1.keptBy hg fun j e hv => k.apart j hv e
  have hGlt : ∀ j, some G = some j → j = G := fun j e => by simp only [Option.some.injEq] at e; omega
  refine ⟨own1.kept hs1 fun j e hv => ?_, at1.set2 _ _ _ _ (by simp), ⟨B, fun x hx => ((hok x hx).grown hg fun j e => .inl (hge j e)).grown hs1 fun j e => ?_, Nat.le_trans hB (Nat.le_trans hg.size hs1.size), hG, ?_, ?_⟩, ?_, fun x hx => ?_, k.pos, k.lo, k.hi⟩
  · have := own1.lt hv
    have := hGlt j e
    omega
  · have := hGlt j e
    subst this
    exact .inr ⟨h, at1⟩
  · exact old1.keptBy hs1 fun j e => by rw [hGlt j e]; exact at1.ne_strs old1
  · have := ho.keptBy hs1 fun j e => by rw [hGlt j e]; exact at1.ne_strs ho
    simpa [Hm.v2] using this
  · intro j hj e
    simp only [Hm.v2, Value.ownBlock, Option.some.injEq] at e
    subst e
    rcases hat with hat | rfl
    · exact k.apart g hj hat
    · have := (World.ownsRow.lt h1 _ hj).2
      omega
  · obtain ⟨t1, t2⟩ := k.ty x hx
    have u1 := t1.grown hg fun j e => .inr (.inr ⟨B, (hok x hx).old, hge j e⟩)
    have u2 := t2.grown hg fun j e => .inr (.inr ⟨B, (hok x hx).new, hge j e⟩)
    exact ⟨u1.grown hs1 fun j e => .inl (by rw [hGlt j e]; exact ⟨h, at1⟩), u2.grown hs1 fun j e => .inl (by rw [hGlt j e]; exact ⟨h, at1⟩)⟩
end Go.Proofs.YtalabahjfmcnbaaGreatDoor
namespace Go.Proofs.YtalabahjfmcnbaaGreatDoor
open Go.RowKit
set_option linter.unusedVariables false

theorem Strs.row {w : World} {A : Option Addr} {cap : Nat} {ls : List (List UInt8)} (h : Strs w w.heap.size A (toBs ls)) : Hid (Strs w w.heap.size A (toBs ls)) := h

end Go.Proofs.YtalabahjfmcnbaaGreatDoor
namespace Go.Proofs.YtalabahjfmcnbaaGreatDoor
open Go.RowKit
set_option linter.unusedVariables false

def intV (n : Nat) : Value := .int .i64 (n : Int)
/-- Numbers lie in block g, one a cell. -/
def IntsAt (w : World) (g : Nat) (ns : List Nat) : Prop := w.heap[g]? = some (.cells (ns.map intV).toArray 3 (0, 0))
section
variable {w w' : World} {g : Nat} {ns : List Nat}
theorem IntsAt.c (h : IntsAt w g ns) {i : Nat} (hi : i < ns.length) : w.cell? ⟨g, i, none⟩ = some (.int .i64 (ns[i] : Int)) := by
  simp [World.cell?, show w.heap[g]? = _ from h, hi, intV]
theorem IntsAt.f (h : IntsAt w g ns) (i : Nat) : w.frozen? ⟨g, i, none⟩ = false := by simp [World.frozen?, show w.heap[g]? = _ from h]
theorem IntsAt.lt (h : IntsAt w g ns) : g < w.heap.size := (Array.getElem?_eq_some_iff.1 h).1
theorem IntsAt.on (h : IntsAt w g ns) (hb : Below w.heap.size w w') : IntsAt w' g ns := (hb.block g h.lt).trans h
theorem IntsAt.grown {row : Option Nat} (h : IntsAt w g ns) (hg : w.grownBy w' row) (hr : row ≠ some g) : IntsAt w' g ns := (hg.block g h.lt (fun e => hr e.symm)).trans h
theorem IntsAt.set (h : IntsAt w g ns) (i v : Nat) : IntsAt (w.setCell ⟨g, i, none⟩ (.int .i64 (v : Int))) g (ns.set i v) := by
  unfold IntsAt at h ⊢
  simp [World.setCell, Array.getElem?_modify, h, List.map_set, intV]
theorem IntsAt.other (h : IntsAt w g ns) {k i : Nat} (hk : k ≠ g) (v : Value) : IntsAt (w.setCell ⟨k, i, none⟩ v) g ns :=
  (Below.heap_setCell w _ v g (fun e => hk e.symm)).trans h
end
end Go.Proofs.YtalabahjfmcnbaaGreatDoor
namespace Go.Proofs.YtalabahjfmcnbaaGreatDoor
open Go.RowKit
set_option linter.unusedVariables false

theorem info_int : (Tryz.prog.info? 3).map (fun i => (i.zero, i.size, i.bytes)) = some (some (.int .i64 0), 1, 8) := by kernel_rfl
end Go.Proofs.YtalabahjfmcnbaaGreatDoor
namespace Go.Proofs.YtalabahjfmcnbaaGreatDoor
open Go.RowKit
set_option linter.unusedVariables false

set_option maxHeartbeats 1000000 in
set_option maxRecDepth 100000 in
theorem check_any (A : Option Addr) (hs : List Hm) (cap : Nat) (w : World) (hk : Hks w w.heap.size A hs) (hn : hs.length ≤ 1000000) (hsm : Small hs) (er : Int) (her : er = if mayB hs then 0 else 6) :
    Calls Tryz.prog 132 #[.slice A hs.length cap] w fun e w' => e = .returned (.int .i64 er) ∧ Below w.heap.size w w' := by
  have HSM := Lib.hid hsm.2
  have HER := Lib.hid her
  clear hsm her
  have HK := Lib.hid hk
  clear hk
  go_enter Tryz.func132, Tryz.ntmps132
  go_wp2
  go_loopw [7] (fun i wr => ∃ k : Nat, k ≤ hs.length ∧ i = .int .i64 (k : Int) ∧ Hid (mayB hs = mayF (endOf hs k) (hs.drop k)) ∧ Hid (∀ j (hj : j < hs.length), j < k → 0 ≤ hs[j].at_) ∧ Below w.heap.size w wr) (fun i _ => hs.length - (intOf i).toNat)
  case atStart => exact ⟨0, Nat.zero_le _, rfl, by show _ = _; rw [endOf_zero]; rfl, fun j _ h => absurd h (by omega), Below.refl _ _⟩
  case round =>
    obtain ⟨k, hk, rfl, heq, hpos, hb⟩ := hrel
    by_cases hlt : k < hs.length
    · have hK := HK.out.on hb
      obtain ⟨b, off, rfl, hbl, h1, h2, h3⟩ := hK.get hlt
      have ok := hK.ok hs[k] (List.getElem_mem _)
      have sm1 := (HSM.out hs[k] (List.getElem_mem _)).1
      have sm2 := (HSM.out hs[k] (List.getElem_mem _)).2
      have l1 := ok.lo
      have l2 := ok.hi
      have l3 := ok.n1
      have l4 := ok.n2
      by_cases hneg : hs[k].at_ < 0
      · have hfin : Hid (mayB hs = false) := heq.out.trans (mayF_neg hlt hneg)
        clear heq hpos ok
        generalize hs[k].at_ = n at *
        go_wp2
        go_ret
        rw [HER.out, hfin.out]
        exact ⟨rfl, hb.alloc hb.size _⟩
      · by_cases h0 : hs[k].old.length = 0 ∧ hs[k].new.length = 0
        · have hfin : Hid (mayB hs = false) := heq.out.trans (mayF_none hlt h0.1 h0.2)
          obtain ⟨g1, g2⟩ := h0
          rw [g1] at h2
          rw [g2] at h3
          clear heq hpos ok g1 g2 l3 l4
          generalize hs[k].at_ = n at *
          go_wp2
          go_ret
          rw [HER.out, hfin.out]
          exact ⟨rfl, hb.alloc hb.size _⟩
        · by_cases hm1 : hs[k].old.length = 0
          · have q1 : ((hs[k].new.length : Int) == 0) = false := by
              rw [beq_eq_false_iff_ne]
              intro e
              exact h0 ⟨hm1, by omega⟩
            rw [hm1] at h2
            clear hm1
            cases k with
            | zero =>
              have hnew : Hid (mayB hs = mayF (endOf hs 1) (hs.drop 1)) := heq.out.trans (mayF_first hlt (by omega) h0)
              have hpos2 : Hid (∀ j (hj : j < hs.length), j < 1 → 0 ≤ hs[j].at_) := by
                intro j hj hj1
                obtain rfl : j = 0 := by omega
                omega
              clear heq hpos ok h0
              simp only [Nat.zero_mul, Nat.add_zero] at h1 h2 h3
              generalize hs[0].at_ = n at *
              generalize hs[0].old.length = m1 at *
              generalize hs[0].new.length = m2 at *
              go_wp2
              go_quiet (fail)
              go_wp2
              go_roundw
              case rel => exact ⟨1, by omega, by go_num, hnew, hpos2, below_drewN (hb.alloc hb.size _) _⟩
              case measure => simp [intOf]; omega
            | succ j =>
              obtain ⟨b2, off2, e2, _, p1, p2, p3⟩ := hK.get (j := j) (by omega)
              cases e2
              have ok2 := hK.ok hs[j] (List.getElem_mem _)
              have l5 := ok2.hi
              have l6 := ok2.n1
              have l7 := hpos.out j (by omega) (by omega)
              have hpos2 : Hid (∀ i (hi : i < hs.length), i < j + 2 → 0 ≤ hs[i].at_) := by
                intro i hi hij
                by_cases e : i = j + 1
                · subst e; omega
                · exact hpos.out i hi (by omega)
              have hA : Hid (hs[j + 1].at_ ≤ hs[j].at_ + hs[j].old.length → mayB hs = false) := fun hh => heq.out.trans (mayF_near hlt hh)
              have hB : Hid (hs[j].at_ + hs[j].old.length < hs[j + 1].at_ → mayB hs = mayF (endOf hs (j + 2)) (hs.drop (j + 2))) := fun hh => heq.out.trans (mayF_next hlt (by omega) h0 hh)
              have i1 : ((j + 1 : Nat) : Int) - 1 = (j : Int) := by omega
              have i2 : ((j + 1 : Nat) : Int) = (j : Int) + 1 := by omega
              clear heq hpos ok ok2 h0
              generalize hs[j + 1].at_ = n at *
              generalize hs[j + 1].old.length = m1 at *
              generalize hs[j + 1].new.length = m2 at *
              generalize hs[j].at_ = n0 at *
              generalize hs[j].old.length = m0 at *
              have HL : Hid (j + 1 < hs.length) := hlt
              by_cases hnear : n ≤ n0 + m0
              · have hfin := Lib.hid (hA.out hnear)
                have w1 : n - n0 ≤ (m0 : Int) := by omega
                clear hA hB
                go_wp2
                go_quiet (fail)
                go_wp2
                go_ret
                rw [HER.out, hfin.out]
                exact ⟨rfl, below_drewN (hb.alloc hb.size _) _⟩
              · have hnew := Lib.hid (hB.out (by omega))
                have w1 : ¬ (n - n0 ≤ (m0 : Int)) := by omega
                clear hA hB
                go_wp2
                go_quiet (fail)
                go_wp2
                go_roundw
                case rel => exact ⟨j + 2, by omega, by go_num, hnew, hpos2, below_drewN (hb.alloc hb.size _) _⟩
                case measure => simp [intOf]; omega
          · have q1 : ((hs[k].old.length : Int) == 0) = false := by
              rw [beq_eq_false_iff_ne]
              omega
            clear hm1
            cases k with
            | zero =>
              have hnew : Hid (mayB hs = mayF (endOf hs 1) (hs.drop 1)) := heq.out.trans (mayF_first hlt (by omega) h0)
              have hpos2 : Hid (∀ j (hj : j < hs.length), j < 1 → 0 ≤ hs[j].at_) := by
                intro j hj hj1
                obtain rfl : j = 0 := by omega
                omega
              clear heq hpos ok h0
              simp only [Nat.zero_mul, Nat.add_zero] at h1 h2 h3
              generalize hs[0].at_ = n at *
              generalize hs[0].old.length = m1 at *
              generalize hs[0].new.length = m2 at *
              go_wp2
              go_quiet (fail)
              go_wp2
              go_roundw
              case rel => exact ⟨1, by omega, by go_num, hnew, hpos2, below_drewN (hb.alloc hb.size _) _⟩
              case measure => simp [intOf]; omega
            | succ j =>
              obtain ⟨b2, off2, e2, _, p1, p2, p3⟩ := hK.get (j := j) (by omega)
              cases e2
              have ok2 := hK.ok hs[j] (List.getElem_mem _)
              have l5 := ok2.hi
              have l6 := ok2.n1
              have l7 := hpos.out j (by omega) (by omega)
              have hpos2 : Hid (∀ i (hi : i < hs.length), i < j + 2 → 0 ≤ hs[i].at_) := by
                intro i hi hij
                by_cases e : i = j + 1
                · subst e; omega
                · exact hpos.out i hi (by omega)
              have hA : Hid (hs[j + 1].at_ ≤ hs[j].at_ + hs[j].old.length → mayB hs = false) := fun hh => heq.out.trans (mayF_near hlt hh)
              have hB : Hid (hs[j].at_ + hs[j].old.length < hs[j + 1].at_ → mayB hs = mayF (endOf hs (j + 2)) (hs.drop (j + 2))) := fun hh => heq.out.trans (mayF_next hlt (by omega) h0 hh)
              have i1 : ((j + 1 : Nat) : Int) - 1 = (j : Int) := by omega
              have i2 : ((j + 1 : Nat) : Int) = (j : Int) + 1 := by omega
              clear heq hpos ok ok2 h0
              generalize hs[j + 1].at_ = n at *
              generalize hs[j + 1].old.length = m1 at *
              generalize hs[j + 1].new.length = m2 at *
              generalize hs[j].at_ = n0 at *
              generalize hs[j].old.length = m0 at *
              have HL : Hid (j + 1 < hs.length) := hlt
              by_cases hnear : n ≤ n0 + m0
              · have hfin := Lib.hid (hA.out hnear)
                have w1 : n - n0 ≤ (m0 : Int) := by omega
                clear hA hB
                go_wp2
                go_quiet (fail)
                go_wp2
                go_ret
                rw [HER.out, hfin.out]
                exact ⟨rfl, below_drewN (hb.alloc hb.size _) _⟩
              · have hnew := Lib.hid (hB.out (by omega))
                have w1 : ¬ (n - n0 ≤ (m0 : Int)) := by omega
                clear hA hB
                go_wp2
                go_quiet (fail)
                go_wp2
                go_roundw
                case rel => exact ⟨j + 2, by omega, by go_num, hnew, hpos2, below_drewN (hb.alloc hb.size _) _⟩
                case measure => simp [intOf]; omega
    · have hk2 : k = hs.length := by omega
      subst hk2
      have hfin : Hid (mayB hs = true) := by show _ = _; rw [heq.out, List.drop_length]; rfl
      clear heq hpos
      go_wp2
      go_ret
      rw [HER.out, hfin.out]
      exact ⟨rfl, hb⟩
end Go.Proofs.YtalabahjfmcnbaaGreatDoor
namespace Go.Proofs.YtalabahjfmcnbaaGreatDoor
open Go.RowKit
set_option linter.unusedVariables false

/-- A step's cells in block G, plainly. -/
structure PAt (w : World) (G : Nat) (kind : Int) (p q : ByteArray) (at_ : Int) (a1 : Option Addr) (n1 c1 : Nat) (a2 : Option Addr) (n2 c2 : Nat) : Prop where
  h : w.heap[G]? = some (.cells #[.int .i64 kind, .string p, .string q, .int .i64 at_, .slice a1 n1 c1, .slice a2 n2 c2] 33 (0, 0))
section
variable {w w' : World} {G : Nat} {kind : Int} {p q : ByteArray} {at_ : Int} {a1 : Option Addr} {n1 c1 : Nat} {a2 : Option Addr} {n2 c2 : Nat}
theorem PAt.k0 (k : PAt w G kind p q at_ a1 n1 c1 a2 n2 c2) : w.cell? ⟨G, 0, none⟩ = some (.int .i64 kind) := by simp [World.cell?, k.h]
theorem PAt.k1 (k : PAt w G kind p q at_ a1 n1 c1 a2 n2 c2) : w.cell? ⟨G, 1, none⟩ = some (.string p) := by simp [World.cell?, k.h]
theorem PAt.k2 (k : PAt w G kind p q at_ a1 n1 c1 a2 n2 c2) : w.cell? ⟨G, 2, none⟩ = some (.string q) := by simp [World.cell?, k.h]
theorem PAt.k3 (k : PAt w G kind p q at_ a1 n1 c1 a2 n2 c2) : w.cell? ⟨G, 3, none⟩ = some (.int .i64 at_) := by simp [World.cell?, k.h]
theorem PAt.k4 (k : PAt w G kind p q at_ a1 n1 c1 a2 n2 c2) : w.cell? ⟨G, 4, none⟩ = some (.slice a1 n1 c1) := by simp [World.cell?, k.h]
theorem PAt.k5 (k : PAt w G kind p q at_ a1 n1 c1 a2 n2 c2) : w.cell? ⟨G, 5, none⟩ = some (.slice a2 n2 c2) := by simp [World.cell?, k.h]
theorem PAt.lt (k : PAt w G kind p q at_ a1 n1 c1 a2 n2 c2) : G < w.heap.size := (Array.getElem?_eq_some_iff.1 k.h).1
theorem PAt.on (k : PAt w G kind p q at_ a1 n1 c1 a2 n2 c2) (hb : Below w.heap.size w w') : PAt w' G kind p q at_ a1 n1 c1 a2 n2 c2 := ⟨(hb.block G k.lt).trans k.h⟩
end
theorem PAt.new_ (w : World) (kind : Int) (p q : ByteArray) (at_ : Int) (a1 : Option Addr) (n1 c1 : Nat) (a2 : Option Addr) (n2 c2 : Nat) : PAt (w.alloc (.cells #[.int .i64 kind, .string p, .string q, .int .i64 at_, .slice a1 n1 c1, .slice a2 n2 c2] 33)) w.heap.size kind p q at_ a1 n1 c1 a2 n2 c2 := ⟨heap_alloc_new w _⟩
theorem q_empty {q : ByteArray} (h : q = ⟨#[]⟩) : (q.toList == []) = true := by rw [h, toList_eq]; rfl
end Go.Proofs.YtalabahjfmcnbaaGreatDoor
