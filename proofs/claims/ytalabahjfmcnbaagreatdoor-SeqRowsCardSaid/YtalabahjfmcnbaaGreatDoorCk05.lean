/- Words for memory: rows of hunks. Words for memory: steps, and rows of steps. A step whose lines lie in blocks of strings; steps handed back. Steps in parameters' and results' cells. -/
import Derived.BigQuiet
import Derived.Deep.QuietTactic
import Derived.Handy
import Derived.Deep.AppendLies
import Derived.Laws.ResultCell
import Derived.Laws.Rows
import Derived.WalkKit
import Derived.Test.YtalabahjfmcnbaaGreatDoorCk04
namespace Go.Proofs.YtalabahjfmcnbaaGreatDoor
open Go.RowKit
set_option linter.unusedVariables false

/-- A hunk as it lies: its place, and both slices, with the lines that they hold. -/
structure Hm where
  at_ : Int
  a1 : Option Addr
  c1 : Nat
  old : List (List UInt8)
  a2 : Option Addr
  c2 : Nat
  new : List (List UInt8)
def Hm.cells (h : Hm) : List Value := [.int .i64 h.at_, .slice h.a1 h.old.length h.c1, .slice h.a2 h.new.length h.c2]
/-- Both slices' lines lie below B. -/
structure Hm.Ok (h : Hm) (w : World) (B : Nat) : Prop where
  old : Strs w B h.a1 (toBs h.old)
  new : Strs w B h.a2 (toBs h.new)
  r1 : Room h.a1 h.old.length h.c1
  r2 : Room h.a2 h.new.length h.c2
  lo : -9223372036854775808 ≤ h.at_
  hi : h.at_ ≤ 9223372036854775807
  n1 : h.old.length ≤ 9223372036854775807
  n2 : h.new.length ≤ 9223372036854775807
/-- Hunks lie at A, three cells each, in a block below B. -/
structure Hks (w : World) (B : Nat) (A : Option Addr) (hs : List Hm) : Prop where
  at_ : 0 < hs.length → ∃ b off, A = some ⟨b, off, none⟩ ∧ b < B ∧ ∀ j (h : j < hs.length), w.cell? ⟨b, off + j * 3, none⟩ = some (.int .i64 hs[j].at_) ∧
    w.cell? ⟨b, off + j * 3 + 1, none⟩ = some (.slice hs[j].a1 hs[j].old.length hs[j].c1) ∧ w.cell? ⟨b, off + j * 3 + 2, none⟩ = some (.slice hs[j].a2 hs[j].new.length hs[j].c2)
  ok : ∀ h ∈ hs, h.Ok w B

section
variable {w w' : World} {B B' : Nat} {A : Option Addr} {hs : List Hm} {h : Hm}
theorem Hm.Ok.below (k : h.Ok w B) (hb : Below B w w') : h.Ok w' B := ⟨k.old.below hb, k.new.below hb, k.r1, k.r2, k.lo, k.hi, k.n1, k.n2⟩
theorem Hm.Ok.more (k : h.Ok w B) (hB : B ≤ B') : h.Ok w B' := ⟨k.old.more hB, k.new.more hB, k.r1, k.r2, k.lo, k.hi, k.n1, k.n2⟩
theorem Hm.Ok.on (k : h.Ok w w.heap.size) (hb : Below w.heap.size w w') : h.Ok w' w'.heap.size := (k.below hb).more hb.size
theorem Hks.below (k : Hks w B A hs) (hb : Below B w w') : Hks w' B A hs :=
  ⟨fun hp => by
    obtain ⟨b, off, e, hlt, hc⟩ := k.at_ hp
    refine ⟨b, off, e, hlt, fun j hj => ?_⟩
    obtain ⟨h1, h2, h3⟩ := hc j hj
    exact ⟨(hb.cell (p := ⟨b, _, none⟩) hlt).trans h1, (hb.cell (p := ⟨b, _, none⟩) hlt).trans h2, (hb.cell (p := ⟨b, _, none⟩) hlt).trans h3⟩, fun h hh => (k.ok h hh).below hb⟩
theorem Hks.more (k : Hks w B A hs) (hB : B ≤ B') : Hks w B' A hs :=
  ⟨fun hp => by
    obtain ⟨b, off, e, hlt, hc⟩ := k.at_ hp
    exact ⟨b, off, e, by omega, hc⟩, fun h hh => (k.ok h hh).more hB⟩
theorem Hks.on (k : Hks w w.heap.size A hs) (hb : Below w.heap.size w w') : Hks w' w'.heap.size A hs := (k.below hb).more hb.size
theorem Hks.nil : Hks w B A [] := ⟨fun h => absurd h (by simp), fun h hh => by cases hh⟩
theorem Hks.get (k : Hks w B A hs) {j : Nat} (hj : j < hs.length) : ∃ b off, A = some ⟨b, off, none⟩ ∧ b < B ∧ w.cell? ⟨b, off + j * 3, none⟩ = some (.int .i64 hs[j].at_) ∧
    w.cell? ⟨b, off + j * 3 + 1, none⟩ = some (.slice hs[j].a1 hs[j].old.length hs[j].c1) ∧ w.cell? ⟨b, off + j * 3 + 2, none⟩ = some (.slice hs[j].a2 hs[j].new.length hs[j].c2) := by
  obtain ⟨b, off, e, hlt, hc⟩ := k.at_ (by omega)
  exact ⟨b, off, e, hlt, hc j hj⟩
end

/-- A hunk of its own lies in block g. -/
def HunkAt (w : World) (g : Nat) (h : Hm) : Prop := w.heap[g]? = some (.cells h.cells.toArray 171 (0, 0))
section
variable {w w' : World} {g : Nat} {h : Hm}
theorem HunkAt.c0 (k : HunkAt w g h) : w.cell? ⟨g, 0, none⟩ = some (.int .i64 h.at_) := by simp [World.cell?, show w.heap[g]? = _ from k, Hm.cells]
theorem HunkAt.c1 (k : HunkAt w g h) : w.cell? ⟨g, 1, none⟩ = some (.slice h.a1 h.old.length h.c1) := by simp [World.cell?, show w.heap[g]? = _ from k, Hm.cells]
theorem HunkAt.c2 (k : HunkAt w g h) : w.cell? ⟨g, 2, none⟩ = some (.slice h.a2 h.new.length h.c2) := by simp [World.cell?, show w.heap[g]? = _ from k, Hm.cells]
theorem HunkAt.f (k : HunkAt w g h) (i : Nat) : w.frozen? ⟨g, i, none⟩ = false := by simp [World.frozen?, show w.heap[g]? = _ from k]
theorem HunkAt.lt (k : HunkAt w g h) : g < w.heap.size := (Array.getElem?_eq_some_iff.1 k).1
theorem HunkAt.on (k : HunkAt w g h) (hb : Below w.heap.size w w') : HunkAt w' g h := (hb.block g k.lt).trans k
theorem HunkAt.grown {row : Option Nat} (k : HunkAt w g h) (hg : w.grownBy w' row) (hr : row ≠ some g) : HunkAt w' g h := (hg.block g k.lt (fun e => hr e.symm)).trans k
theorem HunkAt.new_ (w : World) (h : Hm) : HunkAt (w.alloc (.cells h.cells.toArray 171)) w.heap.size h := heap_alloc_new w _
end

/-- May a hunk be? e: the end of the hunk ahead. -/
def okAt (e : Option Int) (h : Hm) : Bool := decide (0 ≤ h.at_ ∧ ¬ (h.old.length = 0 ∧ h.new.length = 0) ∧ ∀ x ∈ e, x < h.at_)
def mayF : Option Int → List Hm → Bool
  | _, [] => true
  | e, h :: l => okAt e h && mayF (some (h.at_ + h.old.length)) l
def mayB (hs : List Hm) : Bool := mayF none hs
/-- The end of the hunk ahead of place k. -/
def endOf (hs : List Hm) (k : Nat) : Option Int := if h : 0 < k ∧ k ≤ hs.length then some (hs[k - 1].at_ + hs[k - 1].old.length) else none
theorem endOf_zero (hs : List Hm) : endOf hs 0 = none := by simp [endOf]
theorem endOf_succ (hs : List Hm) (k : Nat) (h : k < hs.length) : endOf hs (k + 1) = some (hs[k].at_ + hs[k].old.length) := by
  unfold endOf
  rw [dif_pos ⟨by omega, by omega⟩]
  rfl
theorem hk_drop (hs : List Hm) (k : Nat) (h : k < hs.length) : hs.drop k = hs[k] :: hs.drop (k + 1) := List.drop_eq_getElem_cons h
theorem mayF_step {hs : List Hm} {e : Option Int} {k : Nat} (h : k < hs.length) : mayF e (hs.drop k) = (okAt e hs[k] && mayF (some (hs[k].at_ + hs[k].old.length)) (hs.drop (k + 1))) := by
  rw [hk_drop hs k h]; rfl
theorem mayF_neg {hs : List Hm} {e : Option Int} {k : Nat} (h : k < hs.length) (h0 : hs[k].at_ < 0) : mayF e (hs.drop k) = false := by
  have : okAt e hs[k] = false := by unfold okAt; rw [decide_eq_false_iff_not]; intro h; omega
  rw [mayF_step h, this]; rfl
theorem mayF_none {hs : List Hm} {e : Option Int} {k : Nat} (h : k < hs.length) (h0 : hs[k].old.length = 0) (h1 : hs[k].new.length = 0) : mayF e (hs.drop k) = false := by
  have : okAt e hs[k] = false := by unfold okAt; rw [decide_eq_false_iff_not]; exact fun h => h.2.1 ⟨h0, h1⟩
  rw [mayF_step h, this]; rfl
theorem mayF_near {hs : List Hm} {k : Nat} (h : k + 1 < hs.length) (h0 : hs[k + 1].at_ ≤ hs[k].at_ + hs[k].old.length) : mayF (endOf hs (k + 1)) (hs.drop (k + 1)) = false := by
  have : okAt (endOf hs (k + 1)) hs[k + 1] = false := by
    rw [endOf_succ hs k (by omega)]
    unfold okAt; rw [decide_eq_false_iff_not]
    intro h
    have := h.2.2 _ rfl
    omega
  rw [mayF_step h, this]; rfl
theorem mayF_first {hs : List Hm} (h : 0 < hs.length) (h0 : 0 ≤ hs[0].at_) (h1 : ¬ (hs[0].old.length = 0 ∧ hs[0].new.length = 0)) : mayF (endOf hs 0) (hs.drop 0) = mayF (endOf hs 1) (hs.drop 1) := by
  have : okAt (endOf hs 0) hs[0] = true := by
    rw [endOf_zero]
    unfold okAt; rw [decide_eq_true_eq]
    exact ⟨h0, h1, fun x hx => by cases hx⟩
  rw [mayF_step h, this, endOf_succ hs 0 h]; rfl
theorem mayF_next {hs : List Hm} {k : Nat} (h : k + 1 < hs.length) (h0 : 0 ≤ hs[k + 1].at_) (h1 : ¬ (hs[k + 1].old.length = 0 ∧ hs[k + 1].new.length = 0)) (h2 : hs[k].at_ + hs[k].old.length < hs[k + 1].at_) :
    mayF (endOf hs (k + 1)) (hs.drop (k + 1)) = mayF (endOf hs (k + 2)) (hs.drop (k + 2)) := by
  have : okAt (endOf hs (k + 1)) hs[k + 1] = true := by
    rw [endOf_succ hs k (by omega)]
    unfold okAt; rw [decide_eq_true_eq]
    exact ⟨h0, h1, fun x hx => by cases hx; exact h2⟩
  rw [mayF_step h, this, endOf_succ hs (k + 1) h]; rfl
end Go.Proofs.YtalabahjfmcnbaaGreatDoor
namespace Go.Proofs.YtalabahjfmcnbaaGreatDoor
open Go.RowKit
set_option linter.unusedVariables false

/-- A step as it lies: its parts, and both slices, with the lines that they hold. -/
structure Pm where
  kind : Int
  p : ByteArray
  dst : ByteArray
  at_ : Int
  a1 : Option Addr
  c1 : Nat
  old : List (List UInt8)
  a2 : Option Addr
  c2 : Nat
  new : List (List UInt8)
def Pm.cells (x : Pm) : List Value := [.int .i64 x.kind, .string x.p, .string x.dst, .int .i64 x.at_, .slice x.a1 x.old.length x.c1, .slice x.a2 x.new.length x.c2]
def Pm.val (x : Pm) : Value := .agg #[.int .i64 x.kind, .string x.p, .string x.dst, .int .i64 x.at_, .slice x.a1 x.old.length x.c1, .slice x.a2 x.new.length x.c2]
def Pm.key (x : Pm) : Pk := ⟨x.kind, x.p.data.toList, x.dst.data.toList, x.at_, x.old, x.new⟩
def Pm.hm (x : Pm) : Hm := ⟨x.at_, x.a1, x.c1, x.old, x.a2, x.c2, x.new⟩
def pkeys (ps : List Pm) : List Pk := ps.map Pm.key
theorem pkeys_len (ps : List Pm) : (pkeys ps).length = ps.length := by simp [pkeys]
/-- Both slices' lines lie below B. -/
structure Pm.Ok (x : Pm) (w : World) (B : Nat) : Prop where
  h : x.hm.Ok w B
  p : x.p.size ≤ 9223372036854775807
  q : x.dst.size ≤ 9223372036854775807
  lo : -9223372036854775808 ≤ x.kind
  hi : x.kind ≤ 9223372036854775807
/-- A step that is not far too long. -/
structure Pm.Light (x : Pm) : Prop where
  p : x.p.size ≤ 300
  q : x.dst.size ≤ 300
  old : LightK x.old
  new : LightK x.new
/-- A step that is not far too long, behind others were laid to it. -/
structure Pm.Mid (x : Pm) : Prop where
  p : x.p.size ≤ 300
  q : x.dst.size ≤ 300
  old : MidK x.old
  new : MidK x.new
/-- Steps lie at A, six cells each, in a block below B. -/
structure Ps (w : World) (B : Nat) (A : Option Addr) (ps : List Pm) : Prop where
  at_ : 0 < ps.length → ∃ b off, A = some ⟨b, off, none⟩ ∧ b < B ∧ ∀ j (h : j < ps.length), w.cell? ⟨b, off + j * 6, none⟩ = some (.int .i64 ps[j].kind) ∧ w.cell? ⟨b, off + j * 6 + 1, none⟩ = some (.string ps[j].p) ∧
    w.cell? ⟨b, off + j * 6 + 2, none⟩ = some (.string ps[j].dst) ∧ w.cell? ⟨b, off + j * 6 + 3, none⟩ = some (.int .i64 ps[j].at_) ∧ w.cell? ⟨b, off + j * 6 + 4, none⟩ = some (.slice ps[j].a1 ps[j].old.length ps[j].c1) ∧ w.cell? ⟨b, off + j * 6 + 5, none⟩ = some (.slice ps[j].a2 ps[j].new.length ps[j].c2)
  ok : ∀ x ∈ ps, x.Ok w B

section
variable {w w' : World} {B B' : Nat} {A : Option Addr} {ps : List Pm} {x : Pm}
theorem Pm.Ok.below (k : x.Ok w B) (hb : Below B w w') : x.Ok w' B := ⟨k.h.below hb, k.p, k.q, k.lo, k.hi⟩
theorem Pm.Ok.more (k : x.Ok w B) (hB : B ≤ B') : x.Ok w B' := ⟨k.h.more hB, k.p, k.q, k.lo, k.hi⟩
theorem Pm.Ok.on (k : x.Ok w w.heap.size) (hb : Below w.heap.size w w') : x.Ok w' w'.heap.size := (k.below hb).more hb.size
theorem Ps.below (k : Ps w B A ps) (hb : Below B w w') : Ps w' B A ps :=
  ⟨fun hp => by
    obtain ⟨b, off, e, hlt, hc⟩ := k.at_ hp
    refine ⟨b, off, e, hlt, fun j hj => ?_⟩
    obtain ⟨h1, h2, h3, h4, h5, h6⟩ := hc j hj
    have c := fun i => hb.cell (p := ⟨b, i, none⟩) hlt
    exact ⟨(c _).trans h1, (c _).trans h2, (c _).trans h3, (c _).trans h4, (c _).trans h5, (c _).trans h6⟩, fun h hh => (k.ok h hh).below hb⟩
theorem Ps.more (k : Ps w B A ps) (hB : B ≤ B') : Ps w B' A ps :=
  ⟨fun hp => by
    obtain ⟨b, off, e, hlt, hc⟩ := k.at_ hp
    exact ⟨b, off, e, by omega, hc⟩, fun h hh => (k.ok h hh).more hB⟩
theorem Ps.on (k : Ps w w.heap.size A ps) (hb : Below w.heap.size w w') : Ps w' w'.heap.size A ps := (k.below hb).more hb.size
theorem Ps.nil : Ps w B A [] := ⟨fun h => absurd h (by simp), fun h hh => by cases hh⟩
theorem Ps.get (k : Ps w B A ps) {j : Nat} (hj : j < ps.length) : ∃ b off, A = some ⟨b, off, none⟩ ∧ b < B ∧ w.cell? ⟨b, off + j * 6, none⟩ = some (.int .i64 ps[j].kind) ∧ w.cell? ⟨b, off + j * 6 + 1, none⟩ = some (.string ps[j].p) ∧
    w.cell? ⟨b, off + j * 6 + 2, none⟩ = some (.string ps[j].dst) ∧ w.cell? ⟨b, off + j * 6 + 3, none⟩ = some (.int .i64 ps[j].at_) ∧ w.cell? ⟨b, off + j * 6 + 4, none⟩ = some (.slice ps[j].a1 ps[j].old.length ps[j].c1) ∧ w.cell? ⟨b, off + j * 6 + 5, none⟩ = some (.slice ps[j].a2 ps[j].new.length ps[j].c2) := by
  obtain ⟨b, off, e, hlt, hc⟩ := k.at_ (by omega)
  exact ⟨b, off, e, hlt, hc j hj⟩
end

/-- A step of its own lies in block g. -/
def PrimAt (w : World) (g : Nat) (x : Pm) : Prop := w.heap[g]? = some (.cells x.cells.toArray 33 (0, 0))
section
variable {w w' : World} {g : Nat} {x : Pm}
theorem PrimAt.c0 (k : PrimAt w g x) : w.cell? ⟨g, 0, none⟩ = some (.int .i64 x.kind) := by simp [World.cell?, show w.heap[g]? = _ from k, Pm.cells]
theorem PrimAt.c1 (k : PrimAt w g x) : w.cell? ⟨g, 1, none⟩ = some (.string x.p) := by simp [World.cell?, show w.heap[g]? = _ from k, Pm.cells]
theorem PrimAt.c2 (k : PrimAt w g x) : w.cell? ⟨g, 2, none⟩ = some (.string x.dst) := by simp [World.cell?, show w.heap[g]? = _ from k, Pm.cells]
theorem PrimAt.c3 (k : PrimAt w g x) : w.cell? ⟨g, 3, none⟩ = some (.int .i64 x.at_) := by simp [World.cell?, show w.heap[g]? = _ from k, Pm.cells]
theorem PrimAt.c4 (k : PrimAt w g x) : w.cell? ⟨g, 4, none⟩ = some (.slice x.a1 x.old.length x.c1) := by simp [World.cell?, show w.heap[g]? = _ from k, Pm.cells]
theorem PrimAt.c5 (k : PrimAt w g x) : w.cell? ⟨g, 5, none⟩ = some (.slice x.a2 x.new.length x.c2) := by simp [World.cell?, show w.heap[g]? = _ from k, Pm.cells]
theorem PrimAt.fz (k : PrimAt w g x) (i : Nat) : w.frozen? ⟨g, i, none⟩ = false := by simp [World.frozen?, show w.heap[g]? = _ from k]
theorem PrimAt.lt (k : PrimAt w g x) : g < w.heap.size := (Array.getElem?_eq_some_iff.1 k).1
theorem PrimAt.on (k : PrimAt w g x) (hb : Below w.heap.size w w') : PrimAt w' g x := (hb.block g k.lt).trans k
theorem PrimAt.grown {row : Option Nat} (k : PrimAt w g x) (hg : w.grownBy w' row) (hr : row ≠ some g) : PrimAt w' g x := (hg.block g k.lt (fun e => hr e.symm)).trans k
theorem PrimAt.new_ (w : World) (x : Pm) : PrimAt (w.alloc (.cells x.cells.toArray 33)) w.heap.size x := heap_alloc_new w _
end

def pcells (ps : List Pm) : List Value := ps.flatMap Pm.cells
theorem pcells_len : ∀ (ps : List Pm), (pcells ps).length = ps.length * 6
  | [] => rfl
  | h :: ps => by
    have := pcells_len ps
    simp only [pcells, List.flatMap_cons, List.length_append, List.length_cons] at *
    rw [this]
    show 6 + _ = _
    omega
theorem pcells_get : ∀ (ps : List Pm) (j : Nat) (hj : j < ps.length), (pcells ps)[j * 6]? = some (.int .i64 ps[j].kind) ∧ (pcells ps)[j * 6 + 1]? = some (.string ps[j].p) ∧ (pcells ps)[j * 6 + 2]? = some (.string ps[j].dst) ∧ (pcells ps)[j * 6 + 3]? = some (.int .i64 ps[j].at_) ∧
    (pcells ps)[j * 6 + 4]? = some (.slice ps[j].a1 ps[j].old.length ps[j].c1) ∧ (pcells ps)[j * 6 + 5]? = some (.slice ps[j].a2 ps[j].new.length ps[j].c2)
  | h :: ps, 0, hj => ⟨rfl, rfl, rfl, rfl, rfl, rfl⟩
  | h :: ps, j + 1, hj => by
    have ih := pcells_get ps j (by simpa using hj)
    have e : ∀ r, (pcells (h :: ps))[(j + 1) * 6 + r]? = (pcells ps)[j * 6 + r]? := by
      intro r
      have e1 : pcells (h :: ps) = h.cells ++ pcells ps := rfl
      rw [e1, List.getElem?_append_right (by show 6 ≤ _; omega)]
      congr 1
      show _ - 6 = _
      omega
    have e0 := e 0
    rw [Nat.add_zero, Nat.add_zero] at e0
    rw [e0, e 1, e 2, e 3, e 4, e 5]
    exact ih
theorem pcells_app (a b : List Pm) : pcells (a ++ b) = pcells a ++ pcells b := by simp [pcells]
/-- A slice of steps that the call made. -/
def OwnP (w : World) (B : Nat) (v : Value) (ps : List Pm) : Prop := w.ownsRow B 33 6 v ps.length (pcells ps)
theorem OwnP.nil (w : World) (B : Nat) : OwnP w B (.slice none 0 0) [] := w.ownsRow_nil B 33 6
theorem OwnP.ps {w : World} {B : Nat} {v : Value} {ps : List Pm} (h : OwnP w B v ps) (hok : ∀ x ∈ ps, x.Ok w w.heap.size) : ∃ A cap, v = .slice A ps.length cap ∧ Ps w w.heap.size A ps ∧ Room A ps.length cap := by
  have h' := h
  rcases h.2 with ⟨rfl, h0⟩ | ⟨g, cap, cur, rfl, _, hg, hcap, _⟩
  · have e : ps = [] := List.length_eq_zero_iff.1 h0
    subst e
    exact ⟨none, 0, rfl, Ps.nil, fun _ => rfl, Nat.le_refl _⟩
  · refine ⟨_, cap, rfl, ⟨fun hp => ⟨g, 0, rfl, (Array.getElem?_eq_some_iff.1 hg).1, fun j hj => ?_⟩, hok⟩, (fun e => by cases e), hcap⟩
    obtain ⟨c0, c1, c2, c3, c4, c5⟩ := pcells_get ps j hj
    have e : ∀ i, (⟨g, 0, none⟩ : Addr).add i = ⟨g, i, none⟩ := fun i => by unfold Addr.add; split <;> simp_all
    have k0 := h'.cells (g := g) rfl _ _ c0
    have k1 := h'.cells (g := g) rfl _ _ c1
    have k2 := h'.cells (g := g) rfl _ _ c2
    have k3 := h'.cells (g := g) rfl _ _ c3
    have k4 := h'.cells (g := g) rfl _ _ c4
    have k5 := h'.cells (g := g) rfl _ _ c5
    rw [e] at k0 k1 k2 k3 k4 k5
    rw [Nat.zero_add]
    exact ⟨k0, k1, k2, k3, k4, k5⟩
theorem OwnP.kept {w w' : World} {B : Nat} {v : Value} {ps : List Pm} (h : OwnP w B v ps) (hb : Below w.heap.size w w') : OwnP w' B v ps :=
  World.ownsRow.kept h (row := none) ⟨hb.os, hb.tape, hb.output, hb.size, fun i hi _ => hb.block i hi⟩ (by cases v.ownBlock <;> simp)
theorem ownBlock_gep {w : World} {B : Nat} {v : Value} {ps : List Pm} (h : OwnP w B v ps) : ∀ k, v.ownBlock = some k → B ≤ k := fun k hk => (World.ownsRow.lt h k hk).1
theorem below_appendp {w0 w w' : World} {B : Nat} {v : Value} {ps : List Pm} (hb : Below B w0 w) (ho : OwnP w B v ps) (hg : w.grownBy w' v.ownBlock) (hB : B ≤ w0.heap.size) : Below B w0 w' :=
  hb.grown hg (Nat.le_trans hB hb.size) (ownBlock_gep ho)
theorem info_prim : (Tryz.prog.info? 33).map (fun i => (i.zero, i.size, i.bytes)) = some (some (.agg #[.int .i64 0, .string ByteArray.empty, .string ByteArray.empty, .int .i64 0, .slice none 0 0, .slice none 0 0]), 6, 96) := by kernel_rfl
theorem sized_prim : (Tryz.prog.info? 33).map (·.size) = some 6 := by kernel_rfl
theorem load_primv {w : World} {g : Nat} {x : Pm} (k : PrimAt w g x) : (loadVar 33 ⟨g, 0, none⟩).run Tryz.prog w = .ok (.agg x.cells.toArray) w :=
  run_loadVar_row w g 33 33 x.cells.toArray (0, 0) _ k Tryz.underlying33 rfl sized_prim
/-- A step handed back by value. -/
theorem ret_prim {fn : Func} {p : Tmp} (h : fn.results = #[.cell p 33]) (tmps : Array Value) (w : World) (g : Nat) (x : Pm) (hp : tmps.getD p undef = .pointer (some ⟨g, 0, none⟩)) (k : PrimAt w g x) :
    (results fn tmps).run Tryz.prog w = .ok (.agg x.cells.toArray) w :=
  results_cell_row h tmps w g 33 _ (0, 0) _ hp k Tryz.underlying33 rfl sized_prim
/-- A step written over, cell by cell. -/
def setPrim (w : World) (g : Nat) (x : Pm) : World := (((((w.setCell ⟨g, 0, none⟩ (.int .i64 x.kind)).setCell ⟨g, 1, none⟩ (.string x.p)).setCell ⟨g, 2, none⟩ (.string x.dst)).setCell ⟨g, 3, none⟩ (.int .i64 x.at_)).setCell ⟨g, 4, none⟩ (.slice x.a1 x.old.length x.c1)).setCell ⟨g, 5, none⟩ (.slice x.a2 x.new.length x.c2)
theorem setPrim_at {w : World} {g : Nat} {x0 : Pm} (k : PrimAt w g x0) (x : Pm) : PrimAt (setPrim w g x) g x := by
  unfold PrimAt at k ⊢
  simp [setPrim, World.setCell, Array.getElem?_modify, k, Pm.cells]
theorem setPrim_grown (w : World) (g : Nat) (x : Pm) : w.grownBy (setPrim w g x) (some g) :=
  grown_on (grown_on (grown_on (grown_on (grown_on (grown_cell _ _ _ _) (grown_cell _ _ _ _)) (grown_cell _ _ _ _)) (grown_cell _ _ _ _)) (grown_cell _ _ _ _)) (grown_cell _ _ _ _)
theorem below_prim {w0 w : World} {B g : Nat} (x : Pm) (h : Below B w0 w) (hg : B ≤ g) (hB : B ≤ w.heap.size) : Below B w0 (setPrim w g x) :=
  h.grown (setPrim_grown w g x) hB fun k hk => by simp only [Option.some.injEq] at hk; omega
end Go.Proofs.YtalabahjfmcnbaaGreatDoor
namespace Go.Proofs.YtalabahjfmcnbaaGreatDoor
open Go.RowKit
set_option linter.unusedVariables false

/-- A step whose lines lie in blocks of strings. -/
def Pm.Sep (x : Pm) (w : World) : Prop := x.Ok w w.heap.size ∧ StrBlk w x.a1 x.old ∧ StrBlk w x.a2 x.new
theorem Pm.Sep.on {x : Pm} {w w' : World} (h : x.Sep w) (hb : Below w.heap.size w w') : x.Sep w' := ⟨h.1.on hb, h.2.1.on hb, h.2.2.on hb⟩
theorem Pm.Sep.grown {x : Pm} {w w' : World} (h : x.Sep w) {g : Nat} {cur2 : Array Value} {t : TypeId} {fz2 : Nat × Nat} (h2 : w.heap[g]? = some (.cells cur2 t fz2)) (ht : t ≠ 9) (hg : w.grownBy w' (some g)) : x.Sep w' :=
  ⟨⟨⟨h.2.1.strs h.1.h.old h2 ht hg, h.2.2.strs h.1.h.new h2 ht hg, h.1.h.r1, h.1.h.r2, h.1.h.lo, h.1.h.hi, h.1.h.n1, h.1.h.n2⟩, h.1.p, h.1.q, h.1.lo, h.1.hi⟩, h.2.1.grown h2 ht hg, h.2.2.grown h2 ht hg⟩
/-- A step comes back. -/
def PrimLeft (w : World) (k : Pk) (e : Ending) (w' : World) : Prop :=
  ∃ y : Pm, e = .returned (.agg #[.int .i64 y.kind, .string y.p, .string y.dst, .int .i64 y.at_, .slice y.a1 y.old.length y.c1, .slice y.a2 y.new.length y.c2]) ∧ Hid (y.Sep w' ∧ y.key = k) ∧ Below w.heap.size w w'
theorem StrBlk.nil_ (w : World) (A : Option Addr) : StrBlk w A [] := fun h => absurd h (by simp)
/-- A step without lines. -/
theorem sep_bare (w : World) (kind : Int) (p q : ByteArray) (hp : p.size ≤ 9223372036854775807) (hq : q.size ≤ 9223372036854775807) (h1 : 1 ≤ kind) (h2 : kind ≤ 6) : Pm.Sep ⟨kind, p, q, 0, none, 0, [], none, 0, []⟩ w :=
  ⟨⟨⟨Strs.none_, Strs.none_, ⟨fun _ => rfl, Nat.le_refl _⟩, ⟨fun _ => rfl, Nat.le_refl _⟩, by show (-9223372036854775808 : Int) ≤ 0; decide, by show (0 : Int) ≤ 9223372036854775807; decide, by show (0 : Nat) ≤ 9223372036854775807; decide, by show (0 : Nat) ≤ 9223372036854775807; decide⟩, hp, hq, by show _ ≤ kind; omega, by show kind ≤ _; omega⟩, StrBlk.nil_ _ _, StrBlk.nil_ _ _⟩
/-- A step written into the result, handed back. -/
theorem prim_set {w w2 : World} {G : Nat} {y0 y : Pm} {k : Pk} (hb : Below w.heap.size w w2) (hG : w.heap.size ≤ G) (hP : PrimAt w2 G y0) (hy : y.Sep w2) (hk : y.key = k) : PrimLeft w k (.returned (.agg #[.int .i64 y.kind, .string y.p, .string y.dst, .int .i64 y.at_, .slice y.a1 y.old.length y.c1, .slice y.a2 y.new.length y.c2])) (setPrim w2 G y) :=
  ⟨y, rfl, ⟨hy.grown hP (by decide) (setPrim_grown w2 G y), hk⟩, below_prim y hb hG hb.size⟩
theorem sep_zero (w : World) : Pm.Sep ⟨0, ⟨#[]⟩, ⟨#[]⟩, 0, none, 0, [], none, 0, []⟩ w :=
  ⟨⟨⟨Strs.none_, Strs.none_, ⟨fun _ => rfl, Nat.le_refl _⟩, ⟨fun _ => rfl, Nat.le_refl _⟩, by show (-9223372036854775808 : Int) ≤ 0; decide, by show (0 : Int) ≤ 9223372036854775807; decide, by show (0 : Nat) ≤ 9223372036854775807; decide, by show (0 : Nat) ≤ 9223372036854775807; decide⟩, by show (0 : Nat) ≤ 9223372036854775807; decide, by show (0 : Nat) ≤ 9223372036854775807; decide, by show (-9223372036854775808 : Int) ≤ 0; decide, by show (0 : Int) ≤ 9223372036854775807; decide⟩, StrBlk.nil_ _ _, StrBlk.nil_ _ _⟩
theorem results_two {fn : Func} {p q u : Tmp} {ty t2 : TypeId} (h : fn.results = #[.cell p ty, .cell q t2, .tmp u]) (tmps : Array Value) (P : Program) (w : World) :
    (results fn tmps).run P w = ((asAddr (tmps.getD p undef)).run P w).andThen fun a w₁ => ((loadVar ty a).run P w₁).andThen fun v w₂ => ((asAddr (tmps.getD q undef)).run P w₂).andThen fun b w₃ => ((loadVar t2 b).run P w₃).andThen fun v2 w₄ => .ok (.tuple #[v, v2, tmps.getD u undef]) w₄ := by
  simp only [results, h]
  simp [Sem.run_bind, Result.andThen]
/-- Two steps handed back by value, and a third result. -/
theorem ret_prim3 {fn : Func} {p q u : Tmp} (h : fn.results = #[.cell p 33, .cell q 33, .tmp u]) (tmps : Array Value) (w : World) (g g2 : Nat) (x y : Pm) (v : Value) (hp : tmps.getD p undef = .pointer (some ⟨g, 0, none⟩)) (hq : tmps.getD q undef = .pointer (some ⟨g2, 0, none⟩)) (hv : tmps.getD u undef = v) (k : PrimAt w g x) (k2 : PrimAt w g2 y) :
    (results fn tmps).run Tryz.prog w = .ok (.tuple #[.agg x.cells.toArray, .agg y.cells.toArray, v]) w := by
  rw [results_two h, hp, hq, hv]
  simp [asAddr, load_primv k, load_primv k2, Result.andThen]
/-- Steps in a block of their own. -/
theorem ps_new {w : World} {ps : List Pm} (hok : ∀ x ∈ ps, x.Ok w w.heap.size) : Ps (w.alloc (.cells (pcells ps).toArray 33)) (w.heap.size + 1) (some ⟨w.heap.size, 0, none⟩) ps := by
  have hb : Below w.heap.size w (w.alloc (.cells (pcells ps).toArray 33)) := (Below.refl _ _).alloc (Nat.le_refl _) _
  have hn := heap_alloc_new w (.cells (pcells ps).toArray 33)
  have hc : ∀ i v, (pcells ps)[i]? = some v → (w.alloc (.cells (pcells ps).toArray 33)).cell? ⟨w.heap.size, i, none⟩ = some v := fun i v h => by
    simp only [World.cell?, hn]
    simpa using h
  refine ⟨fun hp => ⟨w.heap.size, 0, rfl, Nat.lt_succ_self _, fun j hj => ?_⟩, fun x hx => ((hok x hx).below hb).more (Nat.le_succ _)⟩
  obtain ⟨c0, c1, c2, c3, c4, c5⟩ := pcells_get ps j hj
  simp only [Nat.zero_add]
  exact ⟨hc _ _ c0, hc _ _ c1, hc _ _ c2, hc _ _ c3, hc _ _ c4, hc _ _ c5⟩
end Go.Proofs.YtalabahjfmcnbaaGreatDoor
namespace Go.Proofs.YtalabahjfmcnbaaGreatDoor
open Go.RowKit
set_option linter.unusedVariables false

theorem wrap_lo (n : Int) : -9223372036854775808 ≤ wrap64 n ∧ wrap64 n ≤ 9223372036854775807 := by unfold wrap64; omega
theorem pm_at {w : World} {g : Nat} {kind : Int} {p q : ByteArray} {at_ : Int} {a1 : Option Addr} {c1 : Nat} {old : List (List UInt8)} {a2 : Option Addr} {c2 : Nat} {new : List (List UInt8)} {A B : Option Addr} {m c n d : Nat} (k : PrimAt w g ⟨kind, p, q, at_, a1, c1, old, a2, c2, new⟩) (h1 : m = old.length) (h2 : n = new.length) :
    PrimAt ((w.setCell ⟨g, 4, none⟩ (.slice A m c)).setCell ⟨g, 5, none⟩ (.slice B n d)) g ⟨kind, p, q, at_, A, c, old, B, d, new⟩ := by
  subst h1; subst h2
  unfold PrimAt at k ⊢
  simp [World.setCell, Array.getElem?_modify, k, Pm.cells]
theorem grown45 (w : World) (g : Nat) (u v : Value) : w.grownBy ((w.setCell ⟨g, 4, none⟩ u).setCell ⟨g, 5, none⟩ v) (some g) := grown_on (grown_cell _ _ _ _) (grown_cell _ _ _ _)
/-- The zero step in a result's cells, behind a step in a parameter's. -/
theorem boxes (w : World) (x : Pm) : Below w.heap.size w ((w.alloc (.cells x.cells.toArray 33)).alloc (.cells (Pm.cells ⟨0, ⟨#[]⟩, ⟨#[]⟩, 0, none, 0, [], none, 0, []⟩).toArray 33)) ∧
    PrimAt ((w.alloc (.cells x.cells.toArray 33)).alloc (.cells (Pm.cells ⟨0, ⟨#[]⟩, ⟨#[]⟩, 0, none, 0, [], none, 0, []⟩).toArray 33)) w.heap.size x ∧
    PrimAt ((w.alloc (.cells x.cells.toArray 33)).alloc (.cells (Pm.cells ⟨0, ⟨#[]⟩, ⟨#[]⟩, 0, none, 0, [], none, 0, []⟩).toArray 33)) (w.heap.size + 1) ⟨0, ⟨#[]⟩, ⟨#[]⟩, 0, none, 0, [], none, 0, []⟩ := by
  have hb0 : Below w.heap.size w (w.alloc (.cells x.cells.toArray 33)) := (Below.refl _ _).alloc (Nat.le_refl _) _
  have hb1 : Below (w.alloc (.cells x.cells.toArray 33)).heap.size (w.alloc (.cells x.cells.toArray 33)) ((w.alloc (.cells x.cells.toArray 33)).alloc (.cells (Pm.cells ⟨0, ⟨#[]⟩, ⟨#[]⟩, 0, none, 0, [], none, 0, []⟩).toArray 33)) := (Below.refl _ _).alloc (Nat.le_refl _) _
  refine ⟨hb0.trans (hb1.mono hb0.size), (PrimAt.new_ w x).on hb1, ?_⟩
  have h := PrimAt.new_ (w.alloc (.cells x.cells.toArray 33)) ⟨0, ⟨#[]⟩, ⟨#[]⟩, 0, none, 0, [], none, 0, []⟩
  rw [World.size_alloc] at h
  exact h
/-- A step in a parameter's cells. -/
theorem box1 (w : World) (x : Pm) : Below w.heap.size w (w.alloc (.cells x.cells.toArray 33)) ∧ PrimAt (w.alloc (.cells x.cells.toArray 33)) w.heap.size x := ⟨(Below.refl _ _).alloc (Nat.le_refl _) _, PrimAt.new_ w x⟩
/-- Both steps in parameters' cells. -/
theorem box2 (w : World) (x y : Pm) : Below w.heap.size w ((w.alloc (.cells x.cells.toArray 33)).alloc (.cells y.cells.toArray 33)) ∧
    PrimAt ((w.alloc (.cells x.cells.toArray 33)).alloc (.cells y.cells.toArray 33)) w.heap.size x ∧ PrimAt ((w.alloc (.cells x.cells.toArray 33)).alloc (.cells y.cells.toArray 33)) (w.heap.size + 1) y := by
  have hb0 : Below w.heap.size w (w.alloc (.cells x.cells.toArray 33)) := (Below.refl _ _).alloc (Nat.le_refl _) _
  have hb1 : Below (w.alloc (.cells x.cells.toArray 33)).heap.size (w.alloc (.cells x.cells.toArray 33)) ((w.alloc (.cells x.cells.toArray 33)).alloc (.cells y.cells.toArray 33)) := (Below.refl _ _).alloc (Nat.le_refl _) _
  refine ⟨hb0.trans (hb1.mono hb0.size), (PrimAt.new_ w x).on hb1, ?_⟩
  have h := PrimAt.new_ (w.alloc (.cells x.cells.toArray 33)) y
  rw [World.size_alloc] at h
  exact h
theorem strs_two (w : World) (p q : ByteArray) : Strs (w.alloc (.cells #[.string p, .string q] 9)) (w.alloc (.cells #[.string p, .string q] 9)).heap.size (some ⟨w.heap.size, 0, none⟩) [p, q] := fun _ => by
  refine ⟨w.heap.size, 0, rfl, by simp, fun j hj => ?_⟩
  match j, hj with
  | 0, _ => exact World.cell?_alloc_new w #[.string p, .string q] 9 0
  | 1, _ => exact World.cell?_alloc_new w #[.string p, .string q] 9 1
theorem six_six {w : World} {g h : Nat} {x y : Pm} (k : PrimAt w g x) (l : PrimAt w h y) : w.cell? ⟨g, 0, none⟩ = some (.int .i64 x.kind) ∧ w.cell? ⟨g, 1, none⟩ = some (.string x.p) ∧ w.cell? ⟨g, 2, none⟩ = some (.string x.dst) ∧ w.cell? ⟨g, 3, none⟩ = some (.int .i64 x.at_) ∧ w.cell? ⟨g, 4, none⟩ = some (.slice x.a1 x.old.length x.c1) ∧ w.cell? ⟨g, 5, none⟩ = some (.slice x.a2 x.new.length x.c2) ∧
    w.cell? ⟨h, 0, none⟩ = some (.int .i64 y.kind) ∧ w.cell? ⟨h, 1, none⟩ = some (.string y.p) ∧ w.cell? ⟨h, 2, none⟩ = some (.string y.dst) ∧ w.cell? ⟨h, 3, none⟩ = some (.int .i64 y.at_) ∧ w.cell? ⟨h, 4, none⟩ = some (.slice y.a1 y.old.length y.c1) ∧ w.cell? ⟨h, 5, none⟩ = some (.slice y.a2 y.new.length y.c2) :=
  ⟨k.c0, k.c1, k.c2, k.c3, k.c4, k.c5, l.c0, l.c1, l.c2, l.c3, l.c4, l.c5⟩
theorem PrimAt.draw {w : World} {g : Nat} {x : Pm} (k : PrimAt w g x) : PrimAt w.drew g x := k
/-- Two steps come back, and a third result. -/
def TwoLeft (w : World) (k1 k2 : Pk) (v : Value) (e : Ending) (w' : World) : Prop :=
  ∃ y z : Pm, e = .returned (.tuple #[.agg #[.int .i64 y.kind, .string y.p, .string y.dst, .int .i64 y.at_, .slice y.a1 y.old.length y.c1, .slice y.a2 y.new.length y.c2], .agg #[.int .i64 z.kind, .string z.p, .string z.dst, .int .i64 z.at_, .slice z.a1 z.old.length z.c1, .slice z.a2 z.new.length z.c2], v]) ∧
    Hid (y.Sep w' ∧ z.Sep w' ∧ y.key = k1 ∧ z.key = k2) ∧ Below w.heap.size w w'
theorem setPrim_size (w : World) (g : Nat) (x : Pm) : (setPrim w g x).heap.size = w.heap.size := by simp [setPrim, World.setCell]
/-- Two steps written into both results' cells, handed back. -/
theorem two_set {w w2 : World} {G H : Nat} {y0 z0 y z : Pm} {k1 k2 : Pk} (v : Value) (hb : Below w.heap.size w w2) (hG : w.heap.size ≤ G) (hH : w.heap.size ≤ H) (hne : G ≠ H) (hP : PrimAt w2 G y0) (hQ : PrimAt w2 H z0) (hy : y.Sep w2) (hz : z.Sep w2) (ey : y.key = k1) (ez : z.key = k2) :
    TwoLeft w k1 k2 v (.returned (.tuple #[.agg #[.int .i64 y.kind, .string y.p, .string y.dst, .int .i64 y.at_, .slice y.a1 y.old.length y.c1, .slice y.a2 y.new.length y.c2], .agg #[.int .i64 z.kind, .string z.p, .string z.dst, .int .i64 z.at_, .slice z.a1 z.old.length z.c1, .slice z.a2 z.new.length z.c2], v])) (setPrim (setPrim w2 G y) H z) ∧
    PrimAt (setPrim (setPrim w2 G y) H z) G y ∧ PrimAt (setPrim (setPrim w2 G y) H z) H z := by
  have g1 := setPrim_grown w2 G y
  have p1 := setPrim_at hP y
  have q1 := hQ.grown g1 (by simpa using hne)
  have g2 := setPrim_grown (setPrim w2 G y) H z
  have b1 := below_prim y hb hG hb.size
  have hs : w.heap.size ≤ (setPrim w2 G y).heap.size := by rw [setPrim_size]; exact hb.size
  refine ⟨⟨y, z, rfl, ⟨(hy.grown hP (by decide) g1).grown q1 (by decide) g2, (hz.grown hP (by decide) g1).grown q1 (by decide) g2, ey, ez⟩, below_prim z b1 hH hs⟩, p1.grown g2 (by simpa using Ne.symm hne), setPrim_at q1 z⟩
theorem prim_set6 {w : World} {g h : Nat} {x : Pm} {v0 v1 v2 v3 v4 v5 : Value} (k : PrimAt w g x) (hne : h ≠ g) : PrimAt ((((((w.setCell ⟨h, 0, none⟩ v0).setCell ⟨h, 1, none⟩ v1).setCell ⟨h, 2, none⟩ v2).setCell ⟨h, 3, none⟩ v3).setCell ⟨h, 4, none⟩ v4).setCell ⟨h, 5, none⟩ v5) g x :=
  k.grown (grown_on (grown_on (grown_on (grown_on (grown_on (grown_cell _ _ _ _) (grown_cell _ _ _ _)) (grown_cell _ _ _ _)) (grown_cell _ _ _ _)) (grown_cell _ _ _ _)) (grown_cell _ _ _ _)) (by simpa using hne)
/-- Both steps in parameters' cells, zero steps in both results'. -/
theorem box4 (w : World) (x y : Pm) : Below w.heap.size w ((((w.alloc (.cells x.cells.toArray 33)).alloc (.cells y.cells.toArray 33)).alloc (.cells (Pm.cells ⟨0, ⟨#[]⟩, ⟨#[]⟩, 0, none, 0, [], none, 0, []⟩).toArray 33)).alloc (.cells (Pm.cells ⟨0, ⟨#[]⟩, ⟨#[]⟩, 0, none, 0, [], none, 0, []⟩).toArray 33)) ∧
    PrimAt ((((w.alloc (.cells x.cells.toArray 33)).alloc (.cells y.cells.toArray 33)).alloc (.cells (Pm.cells ⟨0, ⟨#[]⟩, ⟨#[]⟩, 0, none, 0, [], none, 0, []⟩).toArray 33)).alloc (.cells (Pm.cells ⟨0, ⟨#[]⟩, ⟨#[]⟩, 0, none, 0, [], none, 0, []⟩).toArray 33)) w.heap.size x ∧
    PrimAt ((((w.alloc (.cells x.cells.toArray 33)).alloc (.cells y.cells.toArray 33)).alloc (.cells (Pm.cells ⟨0, ⟨#[]⟩, ⟨#[]⟩, 0, none, 0, [], none, 0, []⟩).toArray 33)).alloc (.cells (Pm.cells ⟨0, ⟨#[]⟩, ⟨#[]⟩, 0, none, 0, [], none, 0, []⟩).toArray 33)) (w.heap.size + 1) y ∧
    PrimAt ((((w.alloc (.cells x.cells.toArray 33)).alloc (.cells y.cells.toArray 33)).alloc (.cells (Pm.cells ⟨0, ⟨#[]⟩, ⟨#[]⟩, 0, none, 0, [], none, 0, []⟩).toArray 33)).alloc (.cells (Pm.cells ⟨0, ⟨#[]⟩, ⟨#[]⟩, 0, none, 0, [], none, 0, []⟩).toArray 33)) (w.heap.size + 1 + 1) ⟨0, ⟨#[]⟩, ⟨#[]⟩, 0, none, 0, [], none, 0, []⟩ ∧
    PrimAt ((((w.alloc (.cells x.cells.toArray 33)).alloc (.cells y.cells.toArray 33)).alloc (.cells (Pm.cells ⟨0, ⟨#[]⟩, ⟨#[]⟩, 0, none, 0, [], none, 0, []⟩).toArray 33)).alloc (.cells (Pm.cells ⟨0, ⟨#[]⟩, ⟨#[]⟩, 0, none, 0, [], none, 0, []⟩).toArray 33)) (w.heap.size + 1 + 1 + 1) ⟨0, ⟨#[]⟩, ⟨#[]⟩, 0, none, 0, [], none, 0, []⟩ := by
  obtain ⟨a1, a2, a3⟩ := box2 w x y
  have hz : ((w.alloc (.cells x.cells.toArray 33)).alloc (.cells y.cells.toArray 33)).heap.size = w.heap.size + 1 + 1 := by rw [World.size_alloc, World.size_alloc]
  generalize ((w.alloc (.cells x.cells.toArray 33)).alloc (.cells y.cells.toArray 33)) = w2 at *
  obtain ⟨b1, b2, b3⟩ := boxes w2 ⟨0, ⟨#[]⟩, ⟨#[]⟩, 0, none, 0, [], none, 0, []⟩
  rw [← hz]
  exact ⟨a1.trans (b1.mono a1.size), a2.on b1, a3.on b1, b2, b3⟩
end Go.Proofs.YtalabahjfmcnbaaGreatDoor
