
/- Words for memory: rows of hunks. -/
import Derived.Test.YtmffmhadimeplaaAppend
import Derived.Test.YtmffmhadimeplaaDiffPlain
import Derived.BigQuiet
import Derived.Deep.QuietTactic
import Derived.Handy
namespace Go.Proofs.Ytmffmhadimeplaa
open Go.RowKit
set_option linter.unusedVariables false

/-- A hunk as it lies: its place, and both slices, with the lines that they hold. -/
structure Hm where
  at_ : Int
  a1 : Option Addr
  c1 : Nat
  old : List (List UInt8)
  a2 : Option Addr
  c2 : Nat
  new : List (List UInt8)
def Hm.cells (h : Hm) : List Value := [.int .i64 h.at_, .slice h.a1 h.old.length h.c1, .slice h.a2 h.new.length h.c2]
/-- Both slices' lines lie below B. -/
structure Hm.Ok (h : Hm) (w : World) (B : Nat) : Prop where
  old : Strs w B h.a1 (toBs h.old)
  new : Strs w B h.a2 (toBs h.new)
  r1 : Room h.a1 h.old.length h.c1
  r2 : Room h.a2 h.new.length h.c2
  lo : -9223372036854775808 ≤ h.at_
  hi : h.at_ ≤ 9223372036854775807
  n1 : h.old.length ≤ 9223372036854775807
  n2 : h.new.length ≤ 9223372036854775807
def Hm.plain (h : Hm) : Hk (List UInt8) := ⟨h.at_.toNat, h.old, h.new⟩
/-- Hunks lie at A, three cells each, in a block below B. -/
structure Hks (w : World) (B : Nat) (A : Option Addr) (hs : List Hm) : Prop where
  at_ : 0 < hs.length → ∃ b off, A = some ⟨b, off, none⟩ ∧ b < B ∧ ∀ j (h : j < hs.length), w.cell? ⟨b, off + j * 3, none⟩ = some (.int .i64 hs[j].at_) ∧
    w.cell? ⟨b, off + j * 3 + 1, none⟩ = some (.slice hs[j].a1 hs[j].old.length hs[j].c1) ∧ w.cell? ⟨b, off + j * 3 + 2, none⟩ = some (.slice hs[j].a2 hs[j].new.length hs[j].c2)
  ok : ∀ h ∈ hs, h.Ok w B

section
variable {w w' : World} {B B' : Nat} {A : Option Addr} {hs : List Hm} {h : Hm}
theorem Hm.Ok.below (k : h.Ok w B) (hb : Below B w w') : h.Ok w' B := ⟨k.old.below hb, k.new.below hb, k.r1, k.r2, k.lo, k.hi, k.n1, k.n2⟩
theorem Hm.Ok.more (k : h.Ok w B) (hB : B ≤ B') : h.Ok w B' := ⟨k.old.more hB, k.new.more hB, k.r1, k.r2, k.lo, k.hi, k.n1, k.n2⟩
theorem Hm.Ok.on (k : h.Ok w w.heap.size) (hb : Below w.heap.size w w') : h.Ok w' w'.heap.size := (k.below hb).more hb.size
theorem Hks.below (k : Hks w B A hs) (hb : Below B w w') : Hks w' B A hs :=
  ⟨fun hp => by
    obtain ⟨b, off, e, hlt, hc⟩ := k.at_ hp
    refine ⟨b, off, e, hlt, fun j hj => ?_⟩
    obtain ⟨h1, h2, h3⟩ := hc j hj
    exact ⟨(hb.cell (p := ⟨b, _, none⟩) hlt).trans h1, (hb.cell (p := ⟨b, _, none⟩) hlt).trans h2, (hb.cell (p := ⟨b, _, none⟩) hlt).trans h3⟩, fun h hh => (k.ok h hh).below hb⟩
theorem Hks.more (k : Hks w B A hs) (hB : B ≤ B') : Hks w B' A hs :=
  ⟨fun hp => by
    obtain ⟨b, off, e, hlt, hc⟩ := k.at_ hp
    exact ⟨b, off, e, by omega, hc⟩, fun h hh => (k.ok h hh).more hB⟩
theorem Hks.on (k : Hks w w.heap.size A hs) (hb : Below w.heap.size w w') : Hks w' w'.heap.size A hs := (k.below hb).more hb.size
theorem Hks.nil : Hks w B A [] := ⟨fun h => absurd h (by simp), fun h hh => by cases hh⟩
theorem Hks.get (k : Hks w B A hs) {j : Nat} (hj : j < hs.length) : ∃ b off, A = some ⟨b, off, none⟩ ∧ b < B ∧ w.cell? ⟨b, off + j * 3, none⟩ = some (.int .i64 hs[j].at_) ∧
    w.cell? ⟨b, off + j * 3 + 1, none⟩ = some (.slice hs[j].a1 hs[j].old.length hs[j].c1) ∧ w.cell? ⟨b, off + j * 3 + 2, none⟩ = some (.slice hs[j].a2 hs[j].new.length hs[j].c2) := by
  obtain ⟨b, off, e, hlt, hc⟩ := k.at_ (by omega)
  exact ⟨b, off, e, hlt, hc j hj⟩
end

/-- A hunk of its own lies in block g. -/
def HunkAt (w : World) (g : Nat) (h : Hm) : Prop := w.heap[g]? = some (.cells h.cells.toArray 47 (0, 0))
section
variable {w w' : World} {g : Nat} {h : Hm}
theorem HunkAt.c0 (k : HunkAt w g h) : w.cell? ⟨g, 0, none⟩ = some (.int .i64 h.at_) := by simp [World.cell?, show w.heap[g]? = _ from k, Hm.cells]
theorem HunkAt.c1 (k : HunkAt w g h) : w.cell? ⟨g, 1, none⟩ = some (.slice h.a1 h.old.length h.c1) := by simp [World.cell?, show w.heap[g]? = _ from k, Hm.cells]
theorem HunkAt.c2 (k : HunkAt w g h) : w.cell? ⟨g, 2, none⟩ = some (.slice h.a2 h.new.length h.c2) := by simp [World.cell?, show w.heap[g]? = _ from k, Hm.cells]
theorem HunkAt.f (k : HunkAt w g h) (i : Nat) : w.frozen? ⟨g, i, none⟩ = false := by simp [World.frozen?, show w.heap[g]? = _ from k]
theorem HunkAt.lt (k : HunkAt w g h) : g < w.heap.size := (Array.getElem?_eq_some_iff.1 k).1
theorem HunkAt.on (k : HunkAt w g h) (hb : Below w.heap.size w w') : HunkAt w' g h := (hb.block g k.lt).trans k
theorem HunkAt.grown {row : Option Nat} (k : HunkAt w g h) (hg : w.grownBy w' row) (hr : row ≠ some g) : HunkAt w' g h := (hg.block g k.lt (fun e => hr e.symm)).trans k
theorem HunkAt.new_ (w : World) (h : Hm) : HunkAt (w.alloc (.cells h.cells.toArray 47)) w.heap.size h := heap_alloc_new w _
end

/-- May a hunk be? e: the end of the hunk ahead. -/
def okAt (e : Option Int) (h : Hm) : Bool := decide (0 ≤ h.at_ ∧ ¬ (h.old.length = 0 ∧ h.new.length = 0) ∧ ∀ x ∈ e, x < h.at_)
def mayF : Option Int → List Hm → Bool
  | _, [] => true
  | e, h :: l => okAt e h && mayF (some (h.at_ + h.old.length)) l
def mayB (hs : List Hm) : Bool := mayF none hs
/-- The end of the hunk ahead of place k. -/
def endOf (hs : List Hm) (k : Nat) : Option Int := if h : 0 < k ∧ k ≤ hs.length then some (hs[k - 1].at_ + hs[k - 1].old.length) else none
theorem endOf_zero (hs : List Hm) : endOf hs 0 = none := by simp [endOf]
theorem endOf_succ (hs : List Hm) (k : Nat) (h : k < hs.length) : endOf hs (k + 1) = some (hs[k].at_ + hs[k].old.length) := by
  unfold endOf
  rw [dif_pos ⟨by omega, by omega⟩]
  rfl
theorem hk_drop (hs : List Hm) (k : Nat) (h : k < hs.length) : hs.drop k = hs[k] :: hs.drop (k + 1) := List.drop_eq_getElem_cons h
theorem mayF_step {hs : List Hm} {e : Option Int} {k : Nat} (h : k < hs.length) : mayF e (hs.drop k) = (okAt e hs[k] && mayF (some (hs[k].at_ + hs[k].old.length)) (hs.drop (k + 1))) := by
  rw [hk_drop hs k h]; rfl
theorem mayF_neg {hs : List Hm} {e : Option Int} {k : Nat} (h : k < hs.length) (h0 : hs[k].at_ < 0) : mayF e (hs.drop k) = false := by
  have : okAt e hs[k] = false := by unfold okAt; rw [decide_eq_false_iff_not]; intro h; omega
  rw [mayF_step h, this]; rfl
theorem mayF_none {hs : List Hm} {e : Option Int} {k : Nat} (h : k < hs.length) (h0 : hs[k].old.length = 0) (h1 : hs[k].new.length = 0) : mayF e (hs.drop k) = false := by
  have : okAt e hs[k] = false := by unfold okAt; rw [decide_eq_false_iff_not]; exact fun h => h.2.1 ⟨h0, h1⟩
  rw [mayF_step h, this]; rfl
theorem mayF_near {hs : List Hm} {k : Nat} (h : k + 1 < hs.length) (h0 : hs[k + 1].at_ ≤ hs[k].at_ + hs[k].old.length) : mayF (endOf hs (k + 1)) (hs.drop (k + 1)) = false := by
  have : okAt (endOf hs (k + 1)) hs[k + 1] = false := by
    rw [endOf_succ hs k (by omega)]
    unfold okAt; rw [decide_eq_false_iff_not]
    intro h
    have := h.2.2 _ rfl
    omega
  rw [mayF_step h, this]; rfl
theorem mayF_first {hs : List Hm} (h : 0 < hs.length) (h0 : 0 ≤ hs[0].at_) (h1 : ¬ (hs[0].old.length = 0 ∧ hs[0].new.length = 0)) : mayF (endOf hs 0) (hs.drop 0) = mayF (endOf hs 1) (hs.drop 1) := by
  have : okAt (endOf hs 0) hs[0] = true := by
    rw [endOf_zero]
    unfold okAt; rw [decide_eq_true_eq]
    exact ⟨h0, h1, fun x hx => by cases hx⟩
  rw [mayF_step h, this, endOf_succ hs 0 h]; rfl
theorem mayF_next {hs : List Hm} {k : Nat} (h : k + 1 < hs.length) (h0 : 0 ≤ hs[k + 1].at_) (h1 : ¬ (hs[k + 1].old.length = 0 ∧ hs[k + 1].new.length = 0)) (h2 : hs[k].at_ + hs[k].old.length < hs[k + 1].at_) :
    mayF (endOf hs (k + 1)) (hs.drop (k + 1)) = mayF (endOf hs (k + 2)) (hs.drop (k + 2)) := by
  have : okAt (endOf hs (k + 1)) hs[k + 1] = true := by
    rw [endOf_succ hs k (by omega)]
    unfold okAt; rw [decide_eq_true_eq]
    exact ⟨h0, h1, fun x hx => by cases hx; exact h2⟩
  rw [mayF_step h, this, endOf_succ hs (k + 1) h]; rfl
theorem mayF_plain : ∀ (hs : List Hm) (e : Option Int), mayF e hs = true → (∀ h ∈ hs, 0 ≤ h.at_) ∧ May (hs.map Hm.plain) ∧ (∀ e', e = some e' → -1 ≤ e' → From (e' + 1).toNat (hs.map Hm.plain))
  | [], e, _ => ⟨by simp, trivial, fun _ _ _ => trivial⟩
  | h :: l, e, hm => by
    rw [mayF, Bool.and_eq_true] at hm
    obtain ⟨hm, h4⟩ := hm
    unfold okAt at hm
    rw [decide_eq_true_eq] at hm
    obtain ⟨h1, h2, h3⟩ := hm
    obtain ⟨i1, i2, i3⟩ := mayF_plain l _ h4
    refine ⟨fun g hg => ?_, ⟨?_, ?_, i2⟩, fun e' he hle => ?_⟩
    · rcases List.mem_cons.1 hg with rfl | hg
      · exact h1
      · exact i1 g hg
    · by_cases h0 : h.old = []
      · right
        intro hn
        have hn' : h.new = [] := hn
        exact h2 ⟨by rw [h0]; rfl, by rw [hn']; rfl⟩
      · exact .inl h0
    · have := i3 _ rfl (by omega)
      show From (h.at_.toNat + h.old.length + 1) _
      rwa [show (h.at_ + (h.old.length : Int) + 1).toNat = h.at_.toNat + h.old.length + 1 by omega] at this
    · subst he
      have h3 := h3 e' rfl
      show (e' + 1).toNat ≤ h.at_.toNat
      omega
end Go.Proofs.Ytmffmhadimeplaa
