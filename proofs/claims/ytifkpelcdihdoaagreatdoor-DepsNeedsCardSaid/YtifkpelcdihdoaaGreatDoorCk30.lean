/- Package deps: comer, of the statements' two patches in order of names. -/
import Derived.Test.YtifkpelcdihdoaaGreatDoorProg
import Derived.WalkKit
import Derived.WalkSpells
import Derived.Handy
import Derived.Lib.Hide
import Derived.Shelf.Strings.BuilderK
import Derived.BigQuiet
import Derived.Deep.QuietTactic
import Derived.Lib.AtoiAllCases
import Derived.Lib.ItoaMem
import Derived.Test.YtifkpelcdihdoaaGreatDoorShelf
import Derived.Deep.RegionHeld3
import Derived.Deep.CutRange
import Derived.Lib.AppendIntMem
import Derived.BigRegion
import Derived.Deep.RegionWith
import Derived.Lib.QuietBelow
import Derived.Deep.MidRow
import Derived.RangeFuncNested
import Derived.Test.YtifkpelcdihdoaaGreatDoorCk29
namespace Go.Proofs.YtifkpelcdihdoaaGreatDoor
open Go.RowKit
set_option linter.unusedVariables false
set_option pp.maxSteps 600

/-- What lies in blocks other than these stays. -/
structure Sv (w w' : World) (ks : List Nat) : Prop where
  os : w'.os = w.os
  tape : w'.tape = w.tape
  output : w'.output = w.output
  size : w.heap.size ≤ w'.heap.size
  block : ∀ k, k < w.heap.size → k ∉ ks → w'.heap[k]? = w.heap[k]?
theorem Sv.refl (w : World) (ks : List Nat) : Sv w w ks := ⟨rfl, rfl, rfl, Nat.le_refl _, fun _ _ _ => rfl⟩
theorem Sv.trans {w w1 w2 : World} {ks : List Nat} (h : Sv w w1 ks) (k : Sv w1 w2 ks) : Sv w w2 ks :=
  ⟨k.os.trans h.os, k.tape.trans h.tape, k.output.trans h.output, Nat.le_trans h.size k.size, fun i hi hn => (k.block i (Nat.lt_of_lt_of_le hi h.size) hn).trans (h.block i hi hn)⟩
theorem Sv.mono {w w' : World} {ks ls : List Nat} (h : Sv w w' ks) (hs : ∀ k ∈ ks, k ∈ ls) : Sv w w' ls := ⟨h.os, h.tape, h.output, h.size, fun k hk hn => h.block k hk fun hm => hn (hs k hm)⟩
theorem Sv.of {w w' : World} (h : Below w.heap.size w w') (ks : List Nat) : Sv w w' ks := ⟨h.os, h.tape, h.output, h.size, fun k hk _ => h.block k hk⟩
theorem Sv.one {w w' : World} {g : Nat} {ks : List Nat} (h : w.grownBy w' (some g)) (hg : g ∈ ks) : Sv w w' ks := ⟨h.os, h.tape, h.output, h.size, fun k hk hn => h.block k hk fun e => hn (by injection e with e; rw [e]; exact hg)⟩
theorem Sv.below {w0 w w' : World} {ks : List Nat} (h : Below w0.heap.size w0 w) (k : Sv w w' ks) (hk : ∀ g ∈ ks, w0.heap.size ≤ g) : Below w0.heap.size w0 w' :=
  ⟨k.os.trans h.os, k.tape.trans h.tape, k.output.trans h.output, Nat.le_trans h.size k.size, fun i hi => (k.block i (Nat.lt_of_lt_of_le hi h.size) fun hm => by have := hk i hm; omega).trans (h.block i hi)⟩
theorem Boxed.sv {w w' : World} {ks : List Nat} {b : Nat} {t : TypeId} {v : Value} (h : Boxed w b t v) (k : Sv w w' ks) (hb : b ∉ ks) : Boxed w' b t v := (k.block b h.lt hb).trans h
theorem StrMap.sv {w w' : World} {ks : List Nat} {b m : Nat} {f : ByteArray → Option Value} (h : StrMap w b m f) (k : Sv w w' ks) (hb : b ∉ ks) : StrMap w' b m f := by
  obtain ⟨n, D, hn, ⟨es, clock, h1, h2⟩, hh⟩ := h
  exact ⟨n, D, hn, ⟨es, clock, (k.block b (Array.getElem?_eq_some_iff.1 h1).1 hb).trans h1, h2⟩, hh⟩
theorem Boxed.ne {w : World} {a b : Nat} {t u : TypeId} {v x : Value} (h : Boxed w a t v) (k : Boxed w b u x) (ht : t ≠ u) : a ≠ b := fun e => by
  subst e
  have := h.symm.trans k
  simp only [Option.some.injEq, Obj.cells.injEq] at this
  exact ht this.2.1
/-- Numbers as records of one cell. -/
def intR : Rk Int where
  ty := 3
  tys := 59
  k := 1
  bytes := 8
  zero := .int .i64 0
  enc := fun n => [.int .i64 n]
  len := fun _ => rfl
  one := fun x u hu => by
    obtain rfl : u = _ := by simpa using hu
    rfl
  pos := by decide
  small := by decide
  zsz := rfl
  info := by kernel_rfl
  und := Tryz.underlying59
theorem StrMap.empty {W : World} {b : Nat} (h : W.heap[b]? = some (.map #[] 0)) : StrMap W b 0 (fun _ => none) := by
  obtain ⟨n, D, hn, ⟨es, clock, h1, h2⟩, hh⟩ := StrMap.made W
  rw [heap_alloc_new] at h1
  simp only [Option.some.injEq, Obj.map.injEq] at h1
  obtain ⟨rfl, rfl⟩ := h1
  exact ⟨n, D, hn, ⟨_, _, h, h2⟩, hh⟩
/-- These texts, each once. -/
def onesF (ls : List (List UInt8)) (s : ByteArray) : Option Value := if s.data.toList ∈ ls then some (.int .i64 1) else none
theorem onesF_nil : onesF [] = fun _ => none := by
  funext s
  simp [onesF]
theorem onesF_put (ls : List (List UInt8)) (s : ByteArray) : (fun t => if t = s then some (Value.int .i64 1) else onesF ls t) = onesF (ls ++ [s.data.toList]) := by
  funext t
  unfold onesF
  by_cases e : t = s
  · subst e
    simp
  · have e2 : t.data.toList ≠ s.data.toList := fun h => e (bytes_inj h)
    simp [e, e2]
/-- What comer has made at first: its row in a variable; empty maps; a row of two noughts. -/
structure Com0 (w W : World) (gl gm gu gw bl bu bw : Nat) (S : Value) (fl fu : ByteArray → Option Value) (ml mu : Nat) (n0 n1 : Int) : Prop where
  bl_ : Boxed W gl 22 S
  bm_ : Boxed W gm 88 (.map (some bl))
  bu_ : Boxed W gu 89 (.map (some bu))
  bv_ : Boxed W gw 59 (.slice (some ⟨bw, 0, none⟩) 2 2)
  hl : StrMap W bl ml fl
  hu : StrMap W bu mu fu
  vc : W.heap[bw]? = some (.cells #[.int .i64 n0, .int .i64 n1] 3 (0, 0))
  ne : bl ≠ bu
  ge : ∀ k ∈ [gl, gm, gu, gw, bl, bu, bw], w.heap.size ≤ k
  b : Below w.heap.size w W
section
variable {w W W' : World} {gl gm gu gw bl bu bw ml mu : Nat} {S : Value} {fl fu : ByteArray → Option Value} {n0 n1 : Int}
theorem Com0.on (h : Com0 w W gl gm gu gw bl bu bw S fl fu ml mu n0 n1) (hb : Below W.heap.size W W') : Com0 w W' gl gm gu gw bl bu bw S fl fu ml mu n0 n1 := by
  have on : ∀ {k t v}, Boxed W k t v → Boxed W' k t v := fun hx => (hb.block _ hx.lt).trans hx
  exact ⟨on h.bl_, on h.bm_, on h.bu_, on h.bv_, StrMap.on h.hl hb, StrMap.on h.hu hb, (hb.block _ (Array.getElem?_eq_some_iff.1 h.vc).1).trans h.vc, h.ne, h.ge, h.b.trans (hb.mono h.b.size)⟩
theorem Com0.ges (h : Com0 w W gl gm gu gw bl bu bw S fl fu ml mu n0 n1) : w.heap.size ≤ bl ∧ w.heap.size ≤ bu ∧ w.heap.size ≤ bw := ⟨h.ge _ (by simp), h.ge _ (by simp), h.ge _ (by simp)⟩
theorem Com0.putl (h : Com0 w W gl gm gu gw bl bu bw S fl fu ml mu n0 n1) {f : ByteArray → Option Value} {m : Nat} (hm : StrMap W' bl m f) (hg : W.grownBy W' (some bl)) : Com0 w W' gl gm gu gw bl bu bw S f fu m mu n0 n1 := by
  have ne : ∀ {k t v}, Boxed W k t v → some k ≠ some bl := fun hx e => h.hl.ne_cells hx (Option.some.inj e).symm
  exact ⟨h.bl_.kept hg (ne h.bl_), h.bm_.kept hg (ne h.bm_), h.bu_.kept hg (ne h.bu_), h.bv_.kept hg (ne h.bv_), hm, StrMap.grown h.hu hg (fun e => h.ne (Option.some.inj e)), (hg.block _ (Array.getElem?_eq_some_iff.1 h.vc).1 (fun e => h.hl.ne_cells h.vc (Option.some.inj e).symm)).trans h.vc, h.ne, h.ge, h.b.grown hg h.b.size (fun q hq => by cases hq; exact h.ges.1)⟩
theorem setv1_vc {W : World} {b : Nat} {n0 n1 : Int} (h : W.heap[b]? = some (.cells #[.int .i64 n0, .int .i64 n1] 3 (0, 0))) (n : Int) : (W.setCell ⟨b, 1, none⟩ (.int .i64 n)).heap[b]? = some (.cells #[.int .i64 n0, .int .i64 n] 3 (0, 0)) := by
  obtain ⟨hlt, hk⟩ := Array.getElem?_eq_some_iff.1 h
  show (W.heap.modify b _)[b]? = _
  rw [Array.getElem?_eq_getElem (by rw [Array.size_modify]; exact hlt), Array.getElem_modify_self, hk]
  rfl
theorem Com0.setv1 (h : Com0 w W gl gm gu gw bl bu bw S fl fu ml mu n0 n1) (n : Int) : Com0 w (W.setCell ⟨bw, 1, none⟩ (.int .i64 n)) gl gm gu gw bl bu bw S fl fu ml mu n0 n := by
  have hg := grown_cell W bw 1 (.int .i64 n)
  have ne : ∀ {k t v}, Boxed W k t v → t ≠ 3 → some k ≠ some bw := fun hx ht e => by
    cases e
    have := (show W.heap[_]? = _ from hx).symm.trans h.vc
    simp only [Option.some.injEq, Obj.cells.injEq] at this
    exact ht this.2.1
  exact ⟨h.bl_.kept hg (ne h.bl_ (by decide)), h.bm_.kept hg (ne h.bm_ (by decide)), h.bu_.kept hg (ne h.bu_ (by decide)), h.bv_.kept hg (ne h.bv_ (by decide)), StrMap.grown h.hl hg (fun e => h.hl.ne_cells h.vc (Option.some.inj e).symm), StrMap.grown h.hu hg (fun e => h.hu.ne_cells h.vc (Option.some.inj e).symm), setv1_vc h.vc n, h.ne, h.ge, h.b.grown hg h.b.size (fun q hq => by cases hq; exact h.ges.2.2)⟩
theorem Rk.Blk.put_map {α : Type} {R : Rk α} {W W' : World} {g cap b m : Nat} {d : List α} {f : ByteArray → Option Value} (h : R.Blk W g cap d) (hm : StrMap W b m f) (hg : W.grownBy W' (some b)) : R.Blk W' g cap d := by
  obtain ⟨⟨cur, h1, h2, h3⟩, h4, h5⟩ := h
  exact ⟨⟨cur, (hg.block _ (Array.getElem?_eq_some_iff.1 h1).1 (fun e => hm.ne_cells h1 (Option.some.inj e).symm)).trans h1, h2, h3⟩, h4, h5⟩
theorem Rk.Blk.set_other {α : Type} {R : Rk α} {W : World} {g cap b : Nat} {d : List α} (h : R.Blk W g cap d) (hb : g ≠ b) (i : Nat) (v : Value) : R.Blk (W.setCell ⟨b, i, none⟩ v) g cap d := by
  obtain ⟨⟨cur, h1, h2, h3⟩, h4, h5⟩ := h
  exact ⟨⟨cur, ((grown_cell W b i v).block _ (Array.getElem?_eq_some_iff.1 h1).1 (fun e => hb (Option.some.inj e))).trans h1, h2, h3⟩, h4, h5⟩
theorem zero_ints (w : World) : (zeroValue 59).run Tryz.prog w = .ok (.slice none 0 0) w := by kernel_rfl
theorem Com0.putu (h : Com0 w W gl gm gu gw bl bu bw S fl fu ml mu n0 n1) {f : ByteArray → Option Value} {m : Nat} (hm : StrMap W' bu m f) (hg : W.grownBy W' (some bu)) : Com0 w W' gl gm gu gw bl bu bw S fl f ml m n0 n1 := by
  have ne : ∀ {k t v}, Boxed W k t v → some k ≠ some bu := fun hx e => h.hu.ne_cells hx (Option.some.inj e).symm
  exact ⟨h.bl_.kept hg (ne h.bl_), h.bm_.kept hg (ne h.bm_), h.bu_.kept hg (ne h.bu_), h.bv_.kept hg (ne h.bv_), StrMap.grown h.hl hg (fun e => h.ne (Option.some.inj e).symm), hm, (hg.block _ (Array.getElem?_eq_some_iff.1 h.vc).1 (fun e => h.hu.ne_cells h.vc (Option.some.inj e).symm)).trans h.vc, h.ne, h.ge, h.b.grown hg h.b.size (fun q hq => by cases hq; exact h.ges.2.1)⟩
end
/-- Names and hung-on of the two in order. -/
def nmC (i : Nat) : List UInt8 := if i = 0 then [97] else [98]
def dpC (i : Nat) : List (List UInt8) := if i = 0 then [] else [[97]]
theorem nmC_ne {j k : Nat} (hj : j < 2) (hk : k < 2) (h : j ≠ k) : nmC j ≠ nmC k := by
  have h1 : (j = 0 ∧ k = 1) ∨ (j = 1 ∧ k = 0) := by omega
  rcases h1 with ⟨rfl, rfl⟩ | ⟨rfl, rfl⟩ <;> decide
def pA (o : Option Nat) : Value := match o with
  | none => undef
  | some b => .pointer (some ⟨b, 0, none⟩)
def mA (o : Option Nat) : Value := match o with
  | none => undef
  | some b => .map (some b)
def sA (o : Option Nat) : Value := match o with
  | none => undef
  | some b => .slice (some ⟨b, 0, none⟩) 2 2
def aC (g cap gl : Nat) (u : Fin 6 → Option Nat) : Act := { tmps := #[.slice (some ⟨g, 0, none⟩) 2 cap, .pointer (some ⟨gl, 0, none⟩), .slice none 0 0, .nilFunc, pA (u 3), pA (u 4), pA (u 5), undef, undef, undef, undef, undef, undef, mA (u 0), mA (u 1), .slice (some ⟨g, 0, none⟩) 2 cap, .int .i64 2, sA (u 2), undef, undef, undef, undef, undef, undef, undef, undef, undef, undef, undef, undef, undef, undef, undef, undef, undef, undef, undef, undef, undef, undef, undef, undef, undef, undef, undef, undef, undef, undef, undef, undef, undef, undef, undef, undef, undef, undef, undef, undef, undef, undef, undef, undef, undef, undef, undef, undef, undef, undef, undef, undef, undef, undef, undef, undef, undef], defers := [] }
/-- Which blocks are made; whether the first, the second map is stored. -/
abbrev StC := (Fin 6 → Option Nat) × Bool × Bool
def objC (s : StC) (j : Fin 6) : Obj := match j with
  | 0 => .map #[] 0
  | 1 => .map #[] 0
  | 2 => .cells #[.int .i64 0, .int .i64 0] 3 (0, 0)
  | 3 => .cells #[if s.2.1 then mA (s.1 0) else .map none] 88 (0, 0)
  | 4 => .cells #[if s.2.2 then mA (s.1 1) else .map none] 89 (0, 0)
  | 5 => .cells #[.slice none 0 0] 59 (0, 0)
structure MkI (w0 : World) (s : StC) (W : World) : Prop where
  below : Below w0.heap.size w0 W
  at_ : ∀ j b, s.1 j = some b → w0.heap.size ≤ b ∧ W.heap[b]? = some (objC s j)
  ne : ∀ j k b, s.1 j = some b → s.1 k = some b → j = k
  r8 : s.2.1 = true → (s.1 0).isSome = true ∧ (s.1 3).isSome = true ∧ (s.1 4).isSome = true ∧ (s.1 5).isSome = true
  r9 : s.2.2 = true → s.2.1 = true ∧ (s.1 1).isSome = true
theorem MkI.obj {w0 W : World} {s : StC} (h : MkI w0 s W) {j : Fin 6} (hj : s.1 j = none) (b : Nat) (k : Fin 6) : objC (upd s.1 j (some b), s.2) k = objC s k := by
  have e0 : s.2.1 = true → upd s.1 j (some b) 0 = s.1 0 := fun h8 => upd_other _ (fun e => by
    have h2 := (h.r8 h8).1
    rw [e, hj] at h2
    cases h2) _
  have e1 : s.2.2 = true → upd s.1 j (some b) 1 = s.1 1 := fun h9 => upd_other _ (fun e => by
    have h2 := (h.r9 h9).2
    rw [e, hj] at h2
    cases h2) _
  match k with
  | 0 => rfl
  | 1 => rfl
  | 2 => rfl
  | 3 =>
    show Obj.cells #[if s.2.1 then mA (upd s.1 j (some b) 0) else .map none] _ _ = Obj.cells #[if s.2.1 then mA (s.1 0) else .map none] _ _
    by_cases h8 : s.2.1 = true
    · rw [e0 h8]
    · simp [h8]
  | 4 =>
    show Obj.cells #[if s.2.2 then mA (upd s.1 j (some b) 1) else .map none] _ _ = Obj.cells #[if s.2.2 then mA (s.1 1) else .map none] _ _
    by_cases h9 : s.2.2 = true
    · rw [e1 h9]
    · simp [h9]
  | 5 => rfl
theorem MkI.step {w0 W : World} {s : StC} (h : MkI w0 s W) {j : Fin 6} (hj : s.1 j = none) : MkI w0 (upd s.1 j (some W.heap.size), s.2) (W.alloc (objC s j)) := by
  have hal : Below W.heap.size W (W.alloc (objC s j)) := (Below.refl _ _).alloc (Nat.le_refl _) _
  have hlt : ∀ k b, s.1 k = some b → b < W.heap.size := fun k b hk => (Array.getElem?_eq_some_iff.1 (h.at_ k b hk).2).1
  have hs : ∀ k, (s.1 k).isSome = true → (upd s.1 j (some W.heap.size) k).isSome = true := fun k hk => by
    by_cases e : k = j
    · subst e
      rw [upd_same]
      rfl
    · rw [upd_other _ e]
      exact hk
  refine ⟨h.below.trans (hal.mono h.below.size), fun k b hk => ?_, fun k l b hk hl => ?_, fun h8 => ?_, fun h9 => ⟨(h.r9 h9).1, hs _ (h.r9 h9).2⟩⟩
  · rw [h.obj hj]
    change upd s.1 j (some W.heap.size) k = some b at hk
    by_cases e : k = j
    · subst e
      rw [upd_same] at hk
      cases hk
      exact ⟨h.below.size, heap_alloc_new W _⟩
    · rw [upd_other _ e] at hk
      exact ⟨(h.at_ k b hk).1, (hal.block b (hlt k b hk)).trans (h.at_ k b hk).2⟩
  · change upd s.1 j (some W.heap.size) k = some b at hk
    change upd s.1 j (some W.heap.size) l = some b at hl
    by_cases e : k = j
    · by_cases e2 : l = j
      · rw [e, e2]
      · subst e
        rw [upd_same] at hk
        rw [upd_other _ e2] at hl
        cases hk
        exact absurd (hlt l _ hl) (Nat.lt_irrefl _)
    · by_cases e2 : l = j
      · subst e2
        rw [upd_same] at hl
        rw [upd_other _ e] at hk
        cases hl
        exact absurd (hlt k _ hk) (Nat.lt_irrefl _)
      · rw [upd_other _ e] at hk
        rw [upd_other _ e2] at hl
        exact h.ne k l b hk hl
  · obtain ⟨a, b, c, d⟩ := h.r8 h8
    exact ⟨hs _ a, hs _ b, hs _ c, hs _ d⟩
/-- A variable's store. -/
theorem MkI.put {w0 W : World} {s : StC} (h : MkI w0 s W) (s' : StC) (h1 : s'.1 = s.1) (j : Fin 6) {b : Nat} (hj : s.1 j = some b) {t : TypeId} {v u : Value} (ho : objC s j = .cells #[v] t (0, 0)) (ho' : objC s' j = .cells #[u] t (0, 0)) (hk : ∀ k, k ≠ j → objC s' k = objC s k)
    (r8 : s'.2.1 = true → (s.1 0).isSome = true ∧ (s.1 3).isSome = true ∧ (s.1 4).isSome = true ∧ (s.1 5).isSome = true) (r9 : s'.2.2 = true → s'.2.1 = true ∧ (s.1 1).isSome = true) : MkI w0 s' (W.setCell ⟨b, 0, none⟩ u) := by
  have hb : Boxed W b t v := by
    have := (h.at_ j b hj).2
    rw [ho] at this
    exact this
  have hg := grownBy_setCell' W b u
  refine ⟨h.below.grown hg h.below.size (fun q hq => by cases hq; exact (h.at_ j b hj).1), fun k c hc => ?_, fun k l c hc hl => ?_, fun h8 => by rw [h1]; exact r8 h8, fun h9 => by rw [h1]; exact r9 h9⟩
  · rw [h1] at hc
    refine ⟨(h.at_ k c hc).1, ?_⟩
    by_cases e : k = j
    · subst e
      rw [hj] at hc
      cases hc
      rw [ho']
      exact hb.set u
    · rw [hk k e]
      refine (hg.block c (Array.getElem?_eq_some_iff.1 (h.at_ k c hc).2).1 (fun e2 => ?_)).trans (h.at_ k c hc).2
      cases e2
      exact e (h.ne k j _ hc hj)
  · rw [h1] at hc hl
    exact h.ne k l c hc hl
def lC (s : StC) : Array Bool := #[(s.1 0).isSome, (s.1 1).isSome, true, true, (s.1 2).isSome, (s.1 3).isSome, (s.1 4).isSome, (s.1 5).isSome, s.2.1, s.2.2, false]
def mC (s : StC) : Nat := cntN s.1 + ((if s.2.1 then 0 else 1) + (if s.2.2 then 0 else 1))
def idC (j : Fin 6) : Nat := match j with
  | 0 => 0
  | 1 => 1
  | 2 => 4
  | 3 => 5
  | 4 => 6
  | 5 => 7
theorem updC (s : StC) (j : Fin 6) (b : Nat) : lC (upd s.1 j (some b), s.2) = (lC s).setIfInBounds (idC j) true := by
  match j with
  | 0 => rfl
  | 1 => rfl
  | 2 => rfl
  | 3 => rfl
  | 4 => rfl
  | 5 => rfl
theorem mC_upd (s : StC) (j : Fin 6) (b : Nat) (h : s.1 j = none) : mC (upd s.1 j (some b), s.2) + 1 = mC s := by
  have := cnt_upd s.1 j b h
  unfold mC
  dsimp only
  omega
theorem mC_zero {s : StC} (h : mC s = 0) : (∀ j, ∃ b, s.1 j = some b) ∧ s.2.1 = true ∧ s.2.2 = true := by
  unfold mC at h
  refine ⟨fun j => Option.isSome_iff_exists.1 (cnt_zero s.1 (by omega) j), ?_, ?_⟩
  · by_cases e : s.2.1 = true
    · exact e
    · simp [e] at h
  · by_cases e : s.2.2 = true
    · exact e
    · simp [e] at h
def fC (s : StC) (i : Nat) : Bool := (i == 0 && !(s.1 0).isSome) || (i == 1 && !(s.1 1).isSome) || (i == 4 && !(s.1 2).isSome) || (i == 5 && !(s.1 3).isSome) || (i == 6 && !(s.1 4).isSome) || (i == 7 && !(s.1 5).isSome) || (i == 8 && !s.2.1 && (s.1 0).isSome && (s.1 3).isSome && (s.1 4).isSome && (s.1 5).isSome) || (i == 9 && !s.2.2 && s.2.1 && (s.1 1).isSome)
theorem MkI.bools {w0 W : World} {s : StC} (h : MkI w0 s W) (hm : 0 < mC s) : ((!s.2.1 || ((s.1 0).isSome && (s.1 3).isSome && (s.1 4).isSome && (s.1 5).isSome)) && (!s.2.2 || (s.2.1 && (s.1 1).isSome)) && !((s.1 0).isSome && (s.1 1).isSome && (s.1 2).isSome && (s.1 3).isSome && (s.1 4).isSome && (s.1 5).isSome && s.2.1 && s.2.2)) = true := by
  obtain ⟨u, s8, s9⟩ := s
  have h8 := h.r8
  have h9 := h.r9
  dsimp only at h8 h9 ⊢
  simp only [Bool.and_eq_true, Bool.or_eq_true, Bool.not_eq_true', Bool.and_eq_false_iff]
  refine ⟨⟨?_, ?_⟩, ?_⟩
  · cases s8
    · exact .inl rfl
    · obtain ⟨a, b, c, d⟩ := h8 rfl
      exact .inr ⟨⟨⟨a, b⟩, c⟩, d⟩
  · cases s9
    · exact .inl rfl
    · exact .inr (h9 rfl)
  · unfold mC at hm
    dsimp only at hm
    by_cases e8 : s8 = true
    · by_cases e9 : s9 = true
      · subst e8
        subst e9
        obtain ⟨j, hj⟩ := cnt_pos u (by simpa using hm)
        match j, hj with
        | 0, hj => simp [hj]
        | 1, hj => simp [hj]
        | 2, hj => simp [hj]
        | 3, hj => simp [hj]
        | 4, hj => simp [hj]
        | 5, hj => simp [hj]
      · simp [e9]
    · simp [e8]
theorem fC_of {s : StC} {i : Nat} (h : fC s i = true) : (∃ j, i = idC j ∧ s.1 j = none) ∨ (i = 8 ∧ s.2.1 = false ∧ (s.1 0).isSome = true ∧ (s.1 3).isSome = true ∧ (s.1 4).isSome = true ∧ (s.1 5).isSome = true) ∨ (i = 9 ∧ s.2.2 = false ∧ s.2.1 = true ∧ (s.1 1).isSome = true) := by
  unfold fC at h
  simp only [Bool.or_eq_true, Bool.and_eq_true, beq_iff_eq, Bool.not_eq_true', Option.isSome_eq_false_iff, Option.isNone_iff_eq_none] at h
  rcases h with ((((((h | h) | h) | h) | h) | h) | h) | h
  · exact .inl ⟨0, h⟩
  · exact .inl ⟨1, h⟩
  · exact .inl ⟨2, h⟩
  · exact .inl ⟨3, h⟩
  · exact .inl ⟨4, h⟩
  · exact .inl ⟨5, h⟩
  · obtain ⟨⟨⟨⟨⟨a, b⟩, c⟩, d⟩, e⟩, f⟩ := h
    exact .inr (.inl ⟨a, b, c, d, e, f⟩)
  · obtain ⟨⟨⟨a, b⟩, c⟩, d⟩ := h
    exact .inr (.inr ⟨a, b, c, d⟩)
theorem mkmap_ints (w : World) : (Instr.makeSlice 59 (.int .i64 2) (.int .i64 2)).run Tryz.prog w = .ok (.slice (some ⟨w.heap.size, 0, none⟩) 2 2) (w.alloc (.cells #[.int .i64 0, .int .i64 0] 3)) := by
  obtain ⟨i0, hi, hz0, hz1, hz2⟩ := intR.info_of
  have hr := run_make (P := Tryz.prog) w 59 3 i0 (.int .i64 0) intR.und hi hz0 .i64 .i64 2 2 (by decide) (by decide) (by rw [hz2]; decide) (by decide)
  rw [hz1] at hr
  have e : madeCells (Value.int .i64 0).cells ((2 : Int).toNat * intR.k) = #[.int .i64 0, .int .i64 0] := by kernel_rfl
  rw [e] at hr
  exact hr
set_option maxHeartbeats 8000000 in
set_option maxRecDepth 100000 in
theorem dcomer_any (g cap : Nat) (x y : Ptm) (w : World) (hk : patR.Blk w g cap [y, x]) (hw : Aw x y) (ox : x.Ok w w.heap.size) (hz : x.name.size ≤ 9223372036854775807 ∧ y.name.size ≤ 9223372036854775807) :
    Calls Tryz.prog 38 #[.slice (some ⟨g, 0, none⟩) 2 cap] w fun e w' => ∃ f0 cf u0 cu b3 b4 b5 b0 b1 b2, e = .returned (.tuple #[.slice (some ⟨f0, 0, none⟩) 1 cf, .func (.func 60) #[] #[.pointer (some ⟨w.heap.size, 0, none⟩), .pointer (some ⟨b3, 0, none⟩), .pointer (some ⟨b4, 0, none⟩), .pointer (some ⟨b5, 0, none⟩)]]) ∧
      Com0 w w' w.heap.size b3 b4 b5 b0 b1 b2 (.slice (some ⟨g, 0, none⟩) 2 cap) (onesF [[97], [98]]) (fun t => if t = toB [97] then some (.slice (some ⟨u0, 0, none⟩) 1 cu) else none) 2 1 0 1 ∧ intR.Blk w' f0 cf [0] ∧ (w.heap.size ≤ f0 ∧ f0 ≠ b2) ∧ intR.Blk w' u0 cu [1] := by
  have HK := Lib.hid hk
  have HO := Lib.hid ox
  clear hk ox
  go_enter Tryz.func38, Tryz.ntmps38
  -- @P1
  go_upto_region 1 with (fail)
  have HB0 := Boxed.new w 22 (.slice (some ⟨g, 0, none⟩) 2 cap)
  generalize hw0 : (w.alloc (.cells #[.slice (some ⟨g, 0, none⟩) 2 cap] 22)) = w0 at *
  refine wp_region_held_drew (S := fun W => W.cell? ⟨w.heap.size, 0, none⟩ = some (.slice (some ⟨g, 0, none⟩) 2 cap)) (by kernel_rfl) HB0.cell (fun hHeld => ?_)
  refine wpAnyH_take (i := 2) (oi := { dst := some 15, op := _, type := _, pos := _, after := _, guard := _ }) (v := .slice (some ⟨g, 0, none⟩) 2 cap) rfl (by kernel_rfl) (by kernel_rfl) (by kernel_rfl) (fun _ _ _ h => h) (Or.inl ⟨by rfl, fun w' hSw => ?_⟩) (by assumption) ?_
  · ((try dsimp only at hSw); go_simp)
  try simp only [Act.put, List.setIfInBounds_toArray, List.set_cons_zero, List.set_cons_succ]
  refine wpAnyH_take (i := 3) (oi := { dst := some 16, op := _, type := _, pos := _, after := _, guard := _ }) (v := .int .i64 2) rfl (by kernel_rfl) (by kernel_rfl) (by kernel_rfl) (fun _ _ _ h => h) (Or.inl ⟨by rfl, fun w' hSw => ?_⟩) (by assumption) ?_
  · ((try dsimp only at hSw); go_simp)
  try simp only [Act.put, List.setIfInBounds_toArray, List.set_cons_zero, List.set_cons_succ]
  change wpAnyH _ _ _ _ _ (8 + 1) (lC (fun _ => none, false, false)) (aC g cap w.heap.size fun _ => none) _
  have h88 : ∀ W : World, (Instr.makeMap 88 none).run Tryz.prog W = .ok (.map (some W.heap.size)) (W.alloc (.map #[] 0)) := fun W => mk_map0 _ W
  have h89 : ∀ W : World, (Instr.makeMap 89 none).run Tryz.prog W = .ok (.map (some W.heap.size)) (W.alloc (.map #[] 0)) := fun W => mk_map0 _ W
  have hmk := mkmap_ints
  refine any_orders 1 mC lC (fun s => aC g cap w.heap.size s.1) (MkI w0.drew) ?_ ?_ ?_ 8 (fun _ => none, false, false) _ rfl ⟨Below.refl _ _, (fun j b hj => by cases hj), (fun j k b hj _ => by cases hj), (fun h => by cases h), (fun h => by cases h)⟩
  · intro s W hI
    exact cell_on (w := w0.drew) HB0.cell hI.below
  · intro s W hI hm
    have hB := hI.bools hm
    refine ⟨?_, fun i hi => (fun (ha : fC s i = true) => ?_) (List.all_eq_true.1 (?_ : List.all _ (fC s) = true) i hi)⟩
    · unfold lC
      revert hB
      clear hI hm
      obtain ⟨u, s8, s9⟩ := s
      dsimp only
      generalize (u 0).isSome = b0
      generalize (u 1).isSome = b1
      generalize (u 2).isSome = b2
      generalize (u 3).isSome = b3
      generalize (u 4).isSome = b4
      generalize (u 5).isSome = b5
      clear u
      revert b0 b1 b2 b3 b4 b5 s8 s9
      decide +kernel
    · clear hi hB
      obtain ⟨u, s8, s9⟩ := s
      rcases fC_of ha with ⟨j, rfl, hj⟩ | ⟨rfl, e8, e0, e3, e4, e5⟩ | ⟨rfl, e9, e8, e1⟩
      · dsimp only at hj
        match j with
        | 0 =>
          refine ⟨_, rfl, fun K' h => ?_⟩
          have h2 := h (upd u 0 (some W.heap.size), s8, s9) _ (hI.step hj) (mC_upd (u, s8, s9) 0 _ hj) (updC (u, s8, s9) 0 _)
          clear h
          unfold aC
          go_simp
          exact h2
        | 1 =>
          refine ⟨_, rfl, fun K' h => ?_⟩
          have h2 := h (upd u 1 (some W.heap.size), s8, s9) _ (hI.step hj) (mC_upd (u, s8, s9) 1 _ hj) (updC (u, s8, s9) 1 _)
          clear h
          unfold aC
          go_simp
          exact h2
        | 2 =>
          refine ⟨{ dst := some 17, op := _, type := _, pos := _, after := _, guard := _ }, rfl, fun K' h => ?_⟩
          have h2 := h (upd u 2 (some W.heap.size), s8, s9) _ (hI.step hj) (mC_upd (u, s8, s9) 2 _ hj) (updC (u, s8, s9) 2 _)
          clear h
          unfold aC
          go_simp
          exact h2
        | 3 =>
          have e8 : s8 = false := by
            cases h8 : s8 with
            | false => rfl
            | true =>
              have h2 : (u 3).isSome = true := (hI.r8 h8).2.1
              rw [hj] at h2
              cases h2
          subst e8
          refine ⟨_, rfl, fun K' h => ?_⟩
          have h2 := h (upd u 3 (some W.heap.size), false, s9) _ (hI.step hj) (mC_upd (u, false, s9) 3 _ hj) (updC (u, false, s9) 3 _)
          clear h
          unfold aC
          go_simp
          exact h2
        | 4 =>
          have e9 : s9 = false := by
            cases h9 : s9 with
            | false => rfl
            | true =>
              have h2 : (u 4).isSome = true := (hI.r8 (hI.r9 h9).1).2.2.1
              rw [hj] at h2
              cases h2
          subst e9
          refine ⟨_, rfl, fun K' h => ?_⟩
          have h2 := h (upd u 4 (some W.heap.size), s8, false) _ (hI.step hj) (mC_upd (u, s8, false) 4 _ hj) (updC (u, s8, false) 4 _)
          clear h
          unfold aC
          go_simp
          exact h2
        | 5 =>
          refine ⟨_, rfl, fun K' h => ?_⟩
          have h2 := h (upd u 5 (some W.heap.size), s8, s9) _ (hI.step hj) (mC_upd (u, s8, s9) 5 _ hj) (updC (u, s8, s9) 5 _)
          clear h
          unfold aC
          go_simp
          exact h2
      · dsimp only at e8 e0 e3 e4 e5
        subst e8
        obtain ⟨b0, e0⟩ := Option.isSome_iff_exists.1 e0
        obtain ⟨b3, e3⟩ := Option.isSome_iff_exists.1 e3
        have hbx : Boxed W b3 88 (.map none) := (hI.at_ 3 b3 e3).2
        have c3 := hbx.cell
        have f3 := hbx.frozen
        have hput := hI.put (u, true, s9) rfl 3 e3 (t := 88) (v := .map none) (u := .map (some b0)) rfl (by show Obj.cells #[mA (u 0)] _ _ = _; rw [e0]; rfl) (fun k hk => by
          match k, hk with
          | 0, _ => rfl
          | 1, _ => rfl
          | 2, _ => rfl
          | 3, hk => exact absurd rfl hk
          | 4, _ => rfl
          | 5, _ => rfl) (fun _ => ⟨Option.isSome_iff_exists.2 ⟨_, e0⟩, Option.isSome_iff_exists.2 ⟨_, e3⟩, e4, e5⟩) (fun h9 => ⟨rfl, (hI.r9 h9).2⟩)
        refine ⟨_, rfl, fun K' h => ?_⟩
        have h2 := h (u, true, s9) _ hput (by unfold mC; simp; omega) rfl
        clear h
        unfold aC at h2 ⊢
        simp only [e0, e3, pA, mA] at h2 ⊢
        go_simp
        exact h2
      · dsimp only at e9 e8 e1
        subst e9
        subst e8
        obtain ⟨b1, e1⟩ := Option.isSome_iff_exists.1 e1
        obtain ⟨b4, e4⟩ := Option.isSome_iff_exists.1 (hI.r8 rfl).2.2.1
        dsimp only at e4
        have hbx : Boxed W b4 89 (.map none) := (hI.at_ 4 b4 e4).2
        have c3 := hbx.cell
        have f3 := hbx.frozen
        have hput := hI.put (u, true, true) rfl 4 e4 (t := 89) (v := .map none) (u := .map (some b1)) rfl (by show Obj.cells #[mA (u 1)] _ _ = _; rw [e1]; rfl) (fun k hk => by
          match k, hk with
          | 0, _ => rfl
          | 1, _ => rfl
          | 2, _ => rfl
          | 3, _ => rfl
          | 4, hk => exact absurd rfl hk
          | 5, _ => rfl) (fun _ => hI.r8 rfl) (fun _ => ⟨rfl, Option.isSome_iff_exists.2 ⟨_, e1⟩⟩)
        refine ⟨_, rfl, fun K' h => ?_⟩
        have h2 := h (u, true, true) _ hput (by unfold mC; simp) rfl
        clear h
        unfold aC at h2 ⊢
        simp only [e1, e4, pA, mA] at h2 ⊢
        go_simp
        exact h2
    · unfold lC fC
      revert hB
      clear hI hm hi
      obtain ⟨u, s8, s9⟩ := s
      dsimp only
      generalize (u 0).isSome = b0
      generalize (u 1).isSome = b1
      generalize (u 2).isSome = b2
      generalize (u 3).isSome = b3
      generalize (u 4).isSome = b4
      generalize (u 5).isSome = b5
      clear u
      revert b0 b1 b2 b3 b4 b5 s8 s9
      decide +kernel
  · intro s W hI hm
    clear h88 h89 hmk
    obtain ⟨u, s8, s9⟩ := s
    obtain ⟨hall, e8, e9⟩ := mC_zero hm
    dsimp only at hall e8 e9
    subst e8
    subst e9
    obtain ⟨b0, e0⟩ := hall 0
    obtain ⟨b1, e1⟩ := hall 1
    obtain ⟨b2, e2⟩ := hall 2
    obtain ⟨b3, e3⟩ := hall 3
    obtain ⟨b4, e4⟩ := hall 4
    obtain ⟨b5, e5⟩ := hall 5
    have c5 : Boxed W b5 59 (.slice none 0 0) := (hI.at_ 5 b5 e5).2
    have hw0s : w.heap.size < w0.heap.size := by rw [← hw0]; simp
    have hb0 : Below w.heap.size w w0 := by rw [← hw0]; exact below_box _
    have hbd : Below w0.heap.size w0 W := (Below.refl w0.heap.size w0).drew.trans hI.below
    have hC : Com0 w (W.setCell ⟨b5, 0, none⟩ (.slice (some ⟨b2, 0, none⟩) 2 2)) w.heap.size b3 b4 b5 b0 b1 b2 (.slice (some ⟨g, 0, none⟩) 2 cap) (fun _ => none) (fun _ => none) 0 0 0 0 := by
      have hg := grownBy_setCell' W b5 (.slice (some ⟨b2, 0, none⟩) 2 2)
      have c3 : Boxed W b3 88 (.map (some b0)) := by
        have h := (hI.at_ 3 b3 e3).2
        change W.heap[b3]? = some (.cells #[mA (u 0)] _ _) at h
        rw [e0] at h
        exact h
      have c4 : Boxed W b4 89 (.map (some b1)) := by
        have h := (hI.at_ 4 b4 e4).2
        change W.heap[b4]? = some (.cells #[mA (u 1)] _ _) at h
        rw [e1] at h
        exact h
      have cl : Boxed W w.heap.size 22 (.slice (some ⟨g, 0, none⟩) 2 cap) := (hbd.block _ HB0.lt).trans HB0
      have nj : ∀ {j k : Fin 6} {a b : Nat}, u j = some a → u k = some b → j ≠ k → some a ≠ some b := fun h1 h2 h3 h4 => h3 (hI.ne _ _ _ h1 (by cases h4; exact h2))
      have gj : ∀ {j : Fin 6} {a : Nat}, u j = some a → w.heap.size ≤ a := fun h => by
        have h1 := (hI.at_ _ _ h).1
        have h2 : w0.drew.heap.size = w0.heap.size := rfl
        omega
      refine ⟨cl.kept hg (fun e => ?_), c3.kept hg (nj e3 e5 (by decide)), c4.kept hg (nj e4 e5 (by decide)), c5.set _, StrMap.grown (StrMap.empty (hI.at_ 0 b0 e0).2) hg (fun e => nj e5 e0 (by decide) e), StrMap.grown (StrMap.empty (hI.at_ 1 b1 e1).2) hg (fun e => nj e5 e1 (by decide) e), (hg.block _ (Array.getElem?_eq_some_iff.1 (hI.at_ 2 b2 e2).2).1 (nj e2 e5 (by decide))).trans (hI.at_ 2 b2 e2).2, fun e => nj e0 e1 (by decide) (congrArg some e), ?_, ?_⟩
      · have h1 := (hI.at_ 5 b5 e5).1
        have h2 : w0.drew.heap.size = w0.heap.size := rfl
        cases e
        omega
      · intro k hk
        simp only [List.mem_cons, List.not_mem_nil, or_false] at hk
        rcases hk with rfl | rfl | rfl | rfl | rfl | rfl | rfl
        · exact Nat.le_refl _
        · exact gj e3
        · exact gj e4
        · exact gj e5
        · exact gj e0
        · exact gj e1
        · exact gj e2
      · exact (hb0.trans (hbd.mono hb0.size)).grown hg (Nat.le_trans hb0.size hbd.size) (fun q hq => by cases hq; exact gj e5)
    have HC := Lib.hid hC
    have HX : W.cell? ⟨w.heap.size, 0, none⟩ = some (.slice (some ⟨g, 0, none⟩) 2 cap) := cell_on HB0.cell hbd
    have HX2 := Lib.hid hC.bl_.cell
    unfold aC lC
    simp only [e0, e1, e2, e3, e4, e5, pA, mA, sA, Option.isSome_some]
    have q0 := c5.cell
    have qf := c5.frozen
    clear hC hb0 hbd hw0s hI hm hall e0 e1 e2 e3 e4 e5 c5
    refine wpAnyH_ready (rs := [10]) (by kernel_rfl) (by simp) ?_
    refine AllReadyH.cons rfl (fun K hK => ?_) AllReadyH.nil
    go_simp
    refine hK.out _ _ HX2.out (fun hHeld2 => ?_)
    clear hK K hHeld q0 qf HX HX2 hHeld2
    refine wpAnyH_done (by kernel_rfl) ?_ _
    generalize (W.setCell ⟨b5, 0, none⟩ (.slice (some ⟨b2, 0, none⟩) 2 2)) = W1 at *
    clear W HB0 hw0 w0
    try simp only [Exit.then]
    have hb1 := HC.out.bl_.cell
    -- @P2
    go_wp2_with fail
    clear u
    have HN : Hid (∀ k (hk : k < [y, x].length), ([y, x][k]).name.data.toList = nmC k ∧ ([y, x][k]).name.size ≤ 9223372036854775807 ∧ ([y, x][k]).deps = dpC k) := fun k hk => by
      match k, hk with
      | 0, _ => exact ⟨hw.yn, hz.2, hw.yd⟩
      | 1, _ => exact ⟨hw.xn, hz.1, hw.xd⟩
    clear hw hz
    go_loopw [20] (fun i wr => ∃ k : Nat, k ≤ 2 ∧ i = .int .i64 (k : Int) ∧ Hid (Com0 w wr w.heap.size b3 b4 b5 b0 b1 b2 (.slice (some ⟨g, 0, none⟩) 2 cap) (onesF ((List.range k).map nmC)) (fun _ => none) k 0 0 0)) (fun i _ => 2 - (intOf i).toNat)
    case atStart =>
      refine ⟨0, by omega, rfl, ?_⟩
      show Com0 _ _ _ _ _ _ _ _ _ _ _ _ _ _ _ _
      rw [show (List.range 0).map nmC = [] from rfl, onesF_nil]
      exact HC.out
    case round =>
      clear hb1 HC
      obtain ⟨k, hk, rfl, HC⟩ := hrel
      by_cases hlt : k < 2
      · have hlt2 : k < [y, x].length := hlt
        obtain ⟨hn, hz, -⟩ := HN.out k hlt2
        have IA := pat_indexAt (c := cap) (n := 2) (k := k) (A := some ⟨g, 0, none⟩) rfl hlt
        have hkb := HK.out.on HC.out.b
        have RX := pat_rng (w := wr) (b := g) (o := 0) (k := k) (x := [y, x][k]) (fun r u hu => by rw [Nat.zero_add]; exact hkb.cell hlt2 hu)
        rw [Nat.zero_add] at RX
        have RX := Lib.hid RX
        have u0 : (0 : Int) ≤ (k : Int) := by omega
        have u1 : (k : Int) < 2 := by omega
        generalize [y, x][k] = z at *
        obtain ⟨hbx, hX⟩ := pat_box wr z
        have HC1 := Lib.hid (HC.out.on hbx)
        have HXc := hX.c0
        clear hkb hX HC hlt2
        go_upto_region 5 with ((with_reducible refine wpList_load_patw (.tmp 22) g (k * 3) z RX.out ?_ ?_ ?_ ?_); rfl; rfl; rfl; simp only [Act.put, List.setIfInBounds_toArray, List.set_cons_zero, List.set_cons_succ])
        generalize (wr.alloc (.cells #[.string z.name, .slice z.a1 z.deps.length z.c1, .slice z.a2 z.ops.length z.c2] 35)) = wa at *
        generalize wr.heap.size = gx at *
        have q3 := HC1.out.bm_.cell
        have hnot : onesF ((List.range k).map nmC) z.name = none := by
          unfold onesF
          rw [hn, if_neg]
          intro h
          obtain ⟨j, hj, e⟩ := List.mem_map.1 h
          rw [List.mem_range] at hj
          exact nmC_ne (by omega) (by omega) (by omega) e
        have hget := StrMap.get 88 3 Tryz.underlying88 (zero_int wa) HC1.out.hl hz none hnot
        simp only [Option.getD_none] at hget
        obtain ⟨w3, hput, hm3, hg3⟩ := StrMap.put 88 3 Tryz.underlying88 HC1.out.hl hz (by omega) (.int .i64 1)
        have HC3 : Hid (Com0 w w3 w.heap.size b3 b4 b5 b0 b1 b2 (.slice (some ⟨g, 0, none⟩) 2 cap) (onesF ((List.range (k + 1)).map nmC)) (fun _ => none) (k + 1) 0 0 0) := by
          have h := HC1.out.putl hm3 hg3
          rw [onesF_put, hn] at h
          rw [List.range_succ, List.map_append]
          exact h
        clear hm3 hg3 hnot HC1 hbx RX hn
        go_wp2_with fail
        go_roundw
        case rel => exact ⟨k + 1, by omega, by go_num, HC3.out⟩
        case measure => simp [intOf]; omega
      · obtain rfl : k = 2 := by omega
        have hb1 := HC.out.bl_.cell
        -- @P3
        go_wp2_with fail
        clear hb1 hk hlt
        have HC0 : Hid (Com0 w wr w.heap.size b3 b4 b5 b0 b1 b2 (.slice (some ⟨g, 0, none⟩) 2 cap) (onesF [[97], [98]]) (fun _ => none) 2 0 0 0) := HC.out
        clear HC
        go_loopw [2, 32] (fun v i wr => (i = .int .i64 0 ∧ v = .slice none 0 0 ∧ Hid (Com0 w wr w.heap.size b3 b4 b5 b0 b1 b2 (.slice (some ⟨g, 0, none⟩) 2 cap) (onesF [[97], [98]]) (fun _ => none) 2 0 0 0)) ∨
          (i = .int .i64 1 ∧ ∃ f0 cf, v = .slice (some ⟨f0, 0, none⟩) 1 cf ∧ Hid (Com0 w wr w.heap.size b3 b4 b5 b0 b1 b2 (.slice (some ⟨g, 0, none⟩) 2 cap) (onesF [[97], [98]]) (fun _ => none) 2 0 0 0) ∧ Hid (intR.Blk wr f0 cf [0]) ∧ Hid (w.heap.size ≤ f0 ∧ f0 ≠ b2)) ∨
          (i = .int .i64 2 ∧ ∃ f0 cf u0 cu, v = .slice (some ⟨f0, 0, none⟩) 1 cf ∧ Hid (Com0 w wr w.heap.size b3 b4 b5 b0 b1 b2 (.slice (some ⟨g, 0, none⟩) 2 cap) (onesF [[97], [98]]) (fun t => if t = toB [97] then some (.slice (some ⟨u0, 0, none⟩) 1 cu) else none) 2 1 0 1) ∧ Hid (intR.Blk wr f0 cf [0]) ∧ Hid (w.heap.size ≤ f0 ∧ f0 ≠ b2) ∧ Hid (intR.Blk wr u0 cu [1]))) (fun _ i _ => 2 - (intOf i).toNat)
        case atStart => exact .inl ⟨rfl, rfl, HC0.out⟩
        case round =>
          clear HC0
          rcases hrel with ⟨rfl, rfl, HC⟩ | ⟨rfl, f0, cf, rfl, HC, HF, HG⟩ | ⟨rfl, f0, cf, u0, cu, rfl, HC, HF, HG, HU⟩
          · have hkb := HK.out.on HC.out.b
            have RX := pat_rng (w := wr) (b := g) (o := 0) (k := 0) (x := y) (fun r u hu => by rw [Nat.zero_add]; exact hkb.cell (j := 0) (by simp) hu)
            simp only [Nat.zero_mul, Nat.add_zero] at RX
            have RX := Lib.hid RX
            have IA := pat_indexAt (c := cap) (n := 2) (k := 0) (A := some ⟨g, 0, none⟩) rfl (by decide)
            simp only [Nat.zero_mul, Nat.add_zero] at IA
            have hyd : y.deps.length = 0 := by have := (HN.out 0 (by simp)).2.2; change y.deps = [] at this; rw [this]; rfl
            obtain ⟨hbx, hX⟩ := pat_box wr y
            have HC1 := Lib.hid (HC.out.on hbx)
            have x1 := hX.c1
            rw [hyd] at x1
            clear hkb hX HC
            go_upto_region 10 with ((with_reducible refine wpList_load_patw (.tmp 35) g 0 y RX.out ?_ ?_ ?_ ?_); rfl; rfl; rfl; simp only [Act.put, List.setIfInBounds_toArray, List.set_cons_zero, List.set_cons_succ])
            rw [hyd]
            rw [hyd] at HC1 hbx
            clear hyd
            generalize (wr.alloc (.cells #[.string y.name, .slice y.a1 0 y.c1, .slice y.a2 y.ops.length y.c2] 35)) = wa at *
            generalize wr.heap.size = gx at *
            have v5 := HC1.out.bv_.cell
            have vc : wa.cell? ⟨b2, 0, none⟩ = some (.int .i64 0) := by simp [World.cell?, HC1.out.vc]
            -- @P4
            go_wp2_with fail
            refine wp_loop_rounds 1 ?_
            rw [rounds_succ]
            have hba : Below wa.heap.size wa (wa.alloc (.cells #[.int .i64 0] 3)) := below_box _
            have HRW : Hid (intR.Row (wa.alloc (.cells #[.int .i64 0] 3)) (wa.alloc (.cells #[.int .i64 0] 3)).heap.size (some ⟨wa.heap.size, 0, none⟩) [0]) := (Rk.At.new_ (R := intR) wa (0 : Int)).row
            have HC2 := Lib.hid (HC1.out.on hba)
            have hsz : w.heap.size ≤ (wa.alloc (.cells #[.int .i64 0] 3)).heap.size := HC2.out.b.size
            go_wp2_with (at_builtin; refine intR.wpList_append_at rfl _ _ rfl w.heap.size (.slice none 0 0) [] [0] rfl (Rk.Own.nil _ _) (some ⟨wa.heap.size, 0, none⟩) 1 1 rfl rfl (fun e => by cases e) HRW.out hsz (by decide) 1 rfl ?_)
            rintro A' c' w3 ho hg hbl
            have HC3 := Lib.hid (HC2.out.on (below_none hg))
            rcases Rk.own_cases ho with ⟨e, h0⟩ | ⟨f0, cap0, e, hBf, hblk⟩
            · cases h0
            simp only [Value.slice.injEq] at e
            obtain ⟨rfl, -, rfl⟩ := e
            have HF := Lib.hid hblk
            have HG : Hid (w.heap.size ≤ f0 ∧ f0 ≠ b2) := ⟨hBf, by
              have h1 : b2 < wa.heap.size := (Array.getElem?_eq_some_iff.1 HC1.out.vc).1
              have h2 : wa.heap.size ≤ (wa.alloc (.cells #[.int .i64 0] 3)).heap.size := hba.size
              rcases hbl with h | h
              · cases h
              · simp only [Value.ownBlock, Option.some.injEq] at h
                omega⟩
            clear ho hg hbl hblk hBf hba HRW HC2 hsz
            go_wp2_with fail
            refine ⟨?_, ?measure⟩
            · (repeat apply Exists.intro)
              refine ⟨?_, rfl⟩
              exact .inr (.inl ⟨rfl, f0, _, rfl, HC3.out, HF.out, HG.out⟩)
            case measure => simp [intOf]
          · have hkb := HK.out.on HC.out.b
            have RX := pat_rng (w := wr) (b := g) (o := 0) (k := 1) (x := x) (fun r u hu => by rw [Nat.zero_add]; exact hkb.cell (j := 1) (by simp) hu)
            simp only [Nat.one_mul, Nat.zero_add] at RX
            have RX := Lib.hid RX
            have IA : ∀ W : World, (Instr.indexAt 22 (.slice (some ⟨g, 0, none⟩) 2 cap) (.int .i64 1)).run Tryz.prog W = .ok (.pointer (some ⟨g, 3, none⟩)) W := fun W => pat_indexAt (c := cap) (n := 2) (k := 1) (A := some ⟨g, 0, none⟩) rfl (by decide) W
            have hxd : x.deps = [[97]] := (HN.out 1 (by simp)).2.2
            have hxl : x.deps.length = 1 := by rw [hxd]; rfl
            have hst := ((HO.out.on HC.out.b).deps)
            rw [hxd] at hst
            obtain ⟨d0, o0, ea, hlt0, hcz⟩ := hst.at_ (k := 0) (by simp [toBs])
            have hc0 : wr.cell? ⟨d0, o0, none⟩ = some (.string (toB [97])) := by simpa [toBs] using hcz
            clear hcz
            obtain ⟨hbx, hX⟩ := pat_box wr x
            have HC1 := Lib.hid (HC.out.on hbx)
            have HF1 := Lib.hid (HF.out.on hbx)
            have ev : Value.slice x.a1 x.deps.length x.c1 = .slice (some ⟨d0, o0, none⟩) 1 x.c1 := by rw [hxl, ea]
            have x1 := hX.c1.trans (congrArg some ev)
            have hc1 := cell_on hc0 hbx
            clear ev
            clear hkb hX hst hxd hc0 hxl ea HF
            clear HC
            -- @P5
            go_upto_region 10 with ((with_reducible refine wpList_load_patw (.tmp 35) g 3 x RX.out ?_ ?_ ?_ ?_); rfl; rfl; rfl; simp only [Act.put, List.setIfInBounds_toArray, List.set_cons_zero, List.set_cons_succ])
            generalize (wr.alloc (.cells #[.string x.name, .slice x.a1 x.deps.length x.c1, .slice x.a2 x.ops.length x.c2] 35)) = wa at *
            generalize wr.heap.size = gx at *
            have hsz9 : (toB [97]).size ≤ 9223372036854775807 := by decide
            have hone : onesF [[97], [98]] (toB [97]) = some (.int .i64 1) := by unfold onesF; rw [of_toB]; rfl
            generalize hs9 : toB [97] = s9 at *
            have v4 := HC1.out.bm_.cell
            have v5 := HC1.out.bu_.cell
            have v6 := HC1.out.bv_.cell
            have hget := StrMap.get 88 3 Tryz.underlying88 (zero_int wa) HC1.out.hl hsz9 _ hone
            simp only [Option.getD_some] at hget
            go_wp2_with fail
            -- @P6
            refine wp_loop_rounds 2 ?_
            rw [rounds_succ]
            go_upto_region 14 with (fail)
            have hdr : Below wa.heap.size wa wa.drew := (Below.refl _ _).drew
            have HCd := Lib.hid (HC1.out.on hdr)
            have HFd := Lib.hid (HF1.out.on hdr)
            clear hget v4 v5 v6 hc1 x1 hone HC1 HF1
            refine wp_region_held_drew (S := fun W => W.cell? ⟨b4, 0, none⟩ = some (.map (some b1))) (by kernel_rfl) HCd.out.bu_.cell (fun hHeld => ?_)
            refine wpAnyH_take (i := 0) (oi := { dst := some 48, op := _, type := _, pos := _, after := _, guard := _ }) (v := .map (some b1)) rfl (by kernel_rfl) (by kernel_rfl) (by kernel_rfl) (fun _ _ _ h => h) (Or.inl ⟨by rfl, fun w' hSw => ?_⟩) (by assumption) ?_
            · ((try dsimp only at hSw); go_simp)
            try simp only [Act.put, List.setIfInBounds_toArray, List.set_cons_zero, List.set_cons_succ]
            refine wpAnyH_take (i := 1) (oi := { dst := some 49, op := _, type := _, pos := _, after := _, guard := _ }) (v := .string s9) rfl (by kernel_rfl) (by kernel_rfl) (by kernel_rfl) (fun _ _ _ h => h) (Or.inl ⟨by rfl, fun w' hSw => ?_⟩) (by assumption) ?_
            · ((try dsimp only at hSw); go_simp)
            try simp only [Act.put, List.setIfInBounds_toArray, List.set_cons_zero, List.set_cons_succ]
            refine wpAnyH_take (i := 2) (oi := { dst := some 50, op := _, type := _, pos := _, after := _, guard := _ }) (v := .map (some b1)) rfl (by kernel_rfl) (by kernel_rfl) (by kernel_rfl) (fun _ _ _ h => h) (Or.inl ⟨by rfl, fun w' hSw => ?_⟩) (by assumption) ?_
            · ((try dsimp only at hSw); go_simp)
            try simp only [Act.put, List.setIfInBounds_toArray, List.set_cons_zero, List.set_cons_succ]
            refine wpAnyH_take (i := 3) (oi := { dst := some 51, op := _, type := _, pos := _, after := _, guard := _ }) (v := .string s9) rfl (by kernel_rfl) (by kernel_rfl) (by kernel_rfl) (fun _ _ _ h => h) (Or.inl ⟨by rfl, fun w' hSw => ?_⟩) (by assumption) ?_
            · ((try dsimp only at hSw); go_simp)
            try simp only [Act.put, List.setIfInBounds_toArray, List.set_cons_zero, List.set_cons_succ]
            refine wpAnyH_take (i := 5) (oi := { dst := some 53, op := _, type := _, pos := _, after := _, guard := _ }) (v := .int .i64 1) rfl (by kernel_rfl) (by kernel_rfl) (by kernel_rfl) (fun _ _ _ h => h) (Or.inl ⟨by rfl, fun w' hSw => ?_⟩) (by assumption) ?_
            · ((try dsimp only at hSw); go_simp)
            try simp only [Act.put, List.setIfInBounds_toArray, List.set_cons_zero, List.set_cons_succ]
            clear hdr hbx
            generalize wa.drew = wd at *
            have hba : Below wd.heap.size wd (wd.alloc (.cells #[.int .i64 1] 3)) := below_box _
            have HRW : Hid (intR.Row (wd.alloc (.cells #[.int .i64 1] 3)) (wd.alloc (.cells #[.int .i64 1] 3)).heap.size (some ⟨wd.heap.size, 0, none⟩) [1]) := (Rk.At.new_ (R := intR) wd (1 : Int)).row
            have HC2 := Lib.hid (HCd.out.on hba)
            have HF2 := Lib.hid (HFd.out.on hba)
            have HB2 : Hid (b2 < (wd.alloc (.cells #[.int .i64 1] 3)).heap.size) := Nat.lt_of_lt_of_le (Array.getElem?_eq_some_iff.1 HCd.out.vc).1 hba.size
            have hget := StrMap.get 89 59 Tryz.underlying89 (zero_ints wd) HCd.out.hu hsz9 none rfl
            have hget2 := StrMap.get 89 59 Tryz.underlying89 (zero_ints (wd.alloc (.cells #[.int .i64 1] 3))) HC2.out.hu hsz9 none rfl
            simp only [Option.getD_none] at hget hget2
            have hS2 := Lib.hid HC2.out.bu_.cell
            clear hba HCd HFd
            refine wpAnyH_ready (rs := [4, 6]) (by kernel_rfl) (by simp) ?_
            refine AllReadyH.cons rfl (fun K hK => ?_) (AllReadyH.cons rfl (fun K hK => ?_) AllReadyH.nil)
            · go_simp
              refine hK.out _ _ hHeld (fun hHeldA => ?_)
              clear hK K
              try simp only [Act.put, List.setIfInBounds_toArray, List.set_cons_zero, List.set_cons_succ]
              refine wpAnyH_ready (rs := [6]) (by kernel_rfl) (by simp) ?_
              refine AllReadyH.cons rfl (fun K hK => ?_) AllReadyH.nil
              go_simp
              refine hK.out _ _ hS2.out (fun hHeldB => ?_)
              clear hK K
              try simp only [Act.put, List.setIfInBounds_toArray, List.set_cons_zero, List.set_cons_succ]
              generalize hwx : (wd.alloc (.cells #[.int .i64 1] 3)) = wx at *
              refine wpAnyH_ready (rs := [7]) (by kernel_rfl) (by simp) ?_
              refine AllReadyH.cons rfl (fun K hK => ?_) AllReadyH.nil
              refine intR.step_append rfl _ _ rfl wx.heap.size (.slice none 0 0) [] [1] rfl (Rk.Own.nil _ _) (some ⟨wd.heap.size, 0, none⟩) 1 1 rfl rfl (fun e => by cases e) HRW.out (Nat.le_refl _) (by decide) 1 rfl ?_
              rintro A' c' w3 ho hg
              rcases Rk.own_cases ho with ⟨e, h0⟩ | ⟨u0, cap0, e, hBu, hblk⟩
              · cases h0
              simp only [Value.slice.injEq] at e
              obtain ⟨rfl, -, rfl⟩ := e
              have HC3 := Lib.hid (HC2.out.on (below_none hg))
              have HF3 := Lib.hid (HF2.out.on (below_none hg))
              have hU2 : u0 ≠ b2 := by
                have := HB2.out
                omega
              have HU3 := Lib.hid hblk
              refine hK.out _ _ HC3.out.bu_.cell (fun hHeld7 => ?_)
              clear hK K ho hg hblk HRW HC2 HF2 hS2 hBu
              try simp only [Act.put, List.setIfInBounds_toArray]
              obtain ⟨w4, hput, hm4, hg4⟩ := StrMap.put 89 59 Tryz.underlying89 HC3.out.hu hsz9 (by decide) (.slice (some ⟨u0, 0, none⟩) 1 c')
              have HC4 := Lib.hid (HC3.out.putu hm4 hg4)
              have HF4 := Lib.hid (HF3.out.put_map HC3.out.hu hg4)
              have HU4 := Lib.hid (HU3.out.put_map HC3.out.hu hg4)
              have HS4 := Lib.hid HC4.out.bu_.cell
              refine wpAnyH_ready (rs := [8]) (by kernel_rfl) (by simp) ?_
              refine AllReadyH.cons rfl (fun K hK => ?_) AllReadyH.nil
              go_simp
              refine hK.out _ _ HS4.out (fun hHeld8 => ?_)
              clear hK K HS4 hput hHeld7
              try simp only [Act.put, List.setIfInBounds_toArray, List.set_cons_zero, List.set_cons_succ]
              refine wpAnyH_done (by kernel_rfl) ?_ _
              try simp only [Exit.then]
              have v6 := HC4.out.bv_.cell
              have vc : w4.cell? ⟨b2, 1, none⟩ = some (.int .i64 0) := by simp [World.cell?, HC4.out.vc]
              have vf : w4.frozen? ⟨b2, 1, none⟩ = false := by simp [World.frozen?, HC4.out.vc]
              have HC5 := Lib.hid (HC4.out.setv1 1)
              have HF5 := Lib.hid (HF4.out.set_other HG.out.2 1 (.int .i64 1))
              have HU5 := Lib.hid (HU4.out.set_other hU2 1 (.int .i64 1))
              have v6b := HC5.out.bv_.cell
              have vcb : (w4.setCell ⟨b2, 1, none⟩ (.int .i64 1)).cell? ⟨b2, 1, none⟩ = some (.int .i64 1) := by simp [World.cell?, HC5.out.vc]
              clear hm4 hg4 HC3 HF3 HU3 HC4 HF4 HU4 hU2
              go_wp2_with fail
              rw [rounds_succ]
              go_wp2_with fail
              refine ⟨?_, ?measure⟩
              · (repeat apply Exists.intro)
                refine ⟨?_, rfl⟩
                exact .inr (.inr ⟨rfl, f0, _, u0, _, rfl, by rw [hs9]; exact HC5.out, HF5.out, HG.out, HU5.out⟩)
              case measure => simp [intOf]
            · go_simp
              refine hK.out _ _ hS2.out (fun hHeldA => ?_)
              clear hK K
              try simp only [Act.put, List.setIfInBounds_toArray, List.set_cons_zero, List.set_cons_succ]
              refine wpAnyH_ready (rs := [4]) (by kernel_rfl) (by simp) ?_
              refine AllReadyH.cons rfl (fun K hK => ?_) AllReadyH.nil
              go_simp
              refine hK.out _ _ hHeldA (fun hHeldB => ?_)
              clear hK K
              try simp only [Act.put, List.setIfInBounds_toArray, List.set_cons_zero, List.set_cons_succ]
              generalize hwx : (wd.alloc (.cells #[.int .i64 1] 3)) = wx at *
              refine wpAnyH_ready (rs := [7]) (by kernel_rfl) (by simp) ?_
              refine AllReadyH.cons rfl (fun K hK => ?_) AllReadyH.nil
              refine intR.step_append rfl _ _ rfl wx.heap.size (.slice none 0 0) [] [1] rfl (Rk.Own.nil _ _) (some ⟨wd.heap.size, 0, none⟩) 1 1 rfl rfl (fun e => by cases e) HRW.out (Nat.le_refl _) (by decide) 1 rfl ?_
              rintro A' c' w3 ho hg
              rcases Rk.own_cases ho with ⟨e, h0⟩ | ⟨u0, cap0, e, hBu, hblk⟩
              · cases h0
              simp only [Value.slice.injEq] at e
              obtain ⟨rfl, -, rfl⟩ := e
              have HC3 := Lib.hid (HC2.out.on (below_none hg))
              have HF3 := Lib.hid (HF2.out.on (below_none hg))
              have hU2 : u0 ≠ b2 := by
                have := HB2.out
                omega
              have HU3 := Lib.hid hblk
              refine hK.out _ _ HC3.out.bu_.cell (fun hHeld7 => ?_)
              clear hK K ho hg hblk HRW HC2 HF2 hS2 hBu
              try simp only [Act.put, List.setIfInBounds_toArray]
              obtain ⟨w4, hput, hm4, hg4⟩ := StrMap.put 89 59 Tryz.underlying89 HC3.out.hu hsz9 (by decide) (.slice (some ⟨u0, 0, none⟩) 1 c')
              have HC4 := Lib.hid (HC3.out.putu hm4 hg4)
              have HF4 := Lib.hid (HF3.out.put_map HC3.out.hu hg4)
              have HU4 := Lib.hid (HU3.out.put_map HC3.out.hu hg4)
              have HS4 := Lib.hid HC4.out.bu_.cell
              refine wpAnyH_ready (rs := [8]) (by kernel_rfl) (by simp) ?_
              refine AllReadyH.cons rfl (fun K hK => ?_) AllReadyH.nil
              go_simp
              refine hK.out _ _ HS4.out (fun hHeld8 => ?_)
              clear hK K HS4 hput hHeld7
              try simp only [Act.put, List.setIfInBounds_toArray, List.set_cons_zero, List.set_cons_succ]
              refine wpAnyH_done (by kernel_rfl) ?_ _
              try simp only [Exit.then]
              have v6 := HC4.out.bv_.cell
              have vc : w4.cell? ⟨b2, 1, none⟩ = some (.int .i64 0) := by simp [World.cell?, HC4.out.vc]
              have vf : w4.frozen? ⟨b2, 1, none⟩ = false := by simp [World.frozen?, HC4.out.vc]
              have HC5 := Lib.hid (HC4.out.setv1 1)
              have HF5 := Lib.hid (HF4.out.set_other HG.out.2 1 (.int .i64 1))
              have HU5 := Lib.hid (HU4.out.set_other hU2 1 (.int .i64 1))
              have v6b := HC5.out.bv_.cell
              have vcb : (w4.setCell ⟨b2, 1, none⟩ (.int .i64 1)).cell? ⟨b2, 1, none⟩ = some (.int .i64 1) := by simp [World.cell?, HC5.out.vc]
              clear hm4 hg4 HC3 HF3 HU3 HC4 HF4 HU4 hU2
              go_wp2_with fail
              rw [rounds_succ]
              go_wp2_with fail
              refine ⟨?_, ?measure⟩
              · (repeat apply Exists.intro)
                refine ⟨?_, rfl⟩
                exact .inr (.inr ⟨rfl, f0, _, u0, _, rfl, by rw [hs9]; exact HC5.out, HF5.out, HG.out, HU5.out⟩)
              case measure => simp [intOf]
          · have hb1 := HC.out.bl_.cell
            go_wp2
            go_ret2
            exact ⟨f0, cf, u0, cu, b3, b4, b5, b0, b1, b2, rfl, HC.out, HF.out, HG.out, HU.out⟩
end Go.Proofs.YtifkpelcdihdoaaGreatDoor
