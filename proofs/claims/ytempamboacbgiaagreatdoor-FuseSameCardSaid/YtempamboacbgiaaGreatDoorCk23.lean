/- Words for memory: rows of files. Rows of files that a call makes: append; parts of rows. -/
import Derived.Test.YtempamboacbgiaaGreatDoorCk02
import Derived.Deep.AppendLies
import Derived.BigQuiet
import Derived.Deep.QuietTactic
import Derived.Handy
import Derived.Laws.AppendOwnNone
import Derived.OwnWalk
namespace Go.Proofs.YtempamboacbgiaaGreatDoor
open Go.RowKit
set_option linter.unusedVariables false

/-- What a file says: its path, is it a directory, its lines. -/
abbrev PF := List UInt8 × Bool × List (List UInt8)
/-- A file as it lies: its path, is it a directory, and its lines' slice, with the lines that it holds. -/
structure Fm where
  p : ByteArray
  d : Bool
  a : Option Addr
  c : Nat
  ls : List (List UInt8)
def Fm.cells (f : Fm) : List Value := [.string f.p, .bool f.d, .slice f.a f.ls.length f.c]
/-- Its lines lie below B. -/
structure Fm.Ok (f : Fm) (w : World) (B : Nat) : Prop where
  ls : Strs w B f.a (toBs f.ls)
  r : Room f.a f.ls.length f.c
def Fm.key (f : Fm) : PF := (f.p.data.toList, f.d, f.ls)
def fkeys (fs : List Fm) : List PF := fs.map Fm.key
theorem fkeys_len (fs : List Fm) : (fkeys fs).length = fs.length := by simp [fkeys]
theorem fkeys_get (fs : List Fm) (j : Nat) (h : j < (fkeys fs).length) : (fkeys fs)[j] = (fs[j]'(by rw [fkeys_len] at h; exact h)).key := by simp [fkeys]
/-- Files lie at A, three cells each, in a block below B. -/
structure Fs (w : World) (B : Nat) (A : Option Addr) (fs : List Fm) : Prop where
  at_ : 0 < fs.length → ∃ b off, A = some ⟨b, off, none⟩ ∧ b < B ∧ ∀ j (h : j < fs.length), w.cell? ⟨b, off + j * 3, none⟩ = some (.string fs[j].p) ∧
    w.cell? ⟨b, off + j * 3 + 1, none⟩ = some (.bool fs[j].d) ∧ w.cell? ⟨b, off + j * 3 + 2, none⟩ = some (.slice fs[j].a fs[j].ls.length fs[j].c)
  ok : ∀ f ∈ fs, f.Ok w B

section
variable {w w' : World} {B B' : Nat} {A : Option Addr} {fs : List Fm} {f : Fm}
theorem Fm.Ok.below (k : f.Ok w B) (hb : Below B w w') : f.Ok w' B := ⟨k.ls.below hb, k.r⟩
theorem Fm.Ok.more (k : f.Ok w B) (hB : B ≤ B') : f.Ok w B' := ⟨k.ls.more hB, k.r⟩
theorem Fm.Ok.on (k : f.Ok w w.heap.size) (hb : Below w.heap.size w w') : f.Ok w' w'.heap.size := (k.below hb).more hb.size
theorem Fs.below (k : Fs w B A fs) (hb : Below B w w') : Fs w' B A fs :=
  ⟨fun hp => by
    obtain ⟨b, off, e, hlt, hc⟩ := k.at_ hp
    refine ⟨b, off, e, hlt, fun j hj => ?_⟩
    obtain ⟨h1, h2, h3⟩ := hc j hj
    exact ⟨(hb.cell (p := ⟨b, _, none⟩) hlt).trans h1, (hb.cell (p := ⟨b, _, none⟩) hlt).trans h2, (hb.cell (p := ⟨b, _, none⟩) hlt).trans h3⟩, fun h hh => (k.ok h hh).below hb⟩
theorem Fs.more (k : Fs w B A fs) (hB : B ≤ B') : Fs w B' A fs :=
  ⟨fun hp => by
    obtain ⟨b, off, e, hlt, hc⟩ := k.at_ hp
    exact ⟨b, off, e, by omega, hc⟩, fun h hh => (k.ok h hh).more hB⟩
theorem Fs.on (k : Fs w w.heap.size A fs) (hb : Below w.heap.size w w') : Fs w' w'.heap.size A fs := (k.below hb).more hb.size
theorem Fs.nil : Fs w B A [] := ⟨fun h => absurd h (by simp), fun h hh => by cases hh⟩
theorem Fs.get (k : Fs w B A fs) {j : Nat} (hj : j < fs.length) : ∃ b off, A = some ⟨b, off, none⟩ ∧ b < B ∧ w.cell? ⟨b, off + j * 3, none⟩ = some (.string fs[j].p) ∧
    w.cell? ⟨b, off + j * 3 + 1, none⟩ = some (.bool fs[j].d) ∧ w.cell? ⟨b, off + j * 3 + 2, none⟩ = some (.slice fs[j].a fs[j].ls.length fs[j].c) := by
  obtain ⟨b, off, e, hlt, hc⟩ := k.at_ (by omega)
  exact ⟨b, off, e, hlt, hc j hj⟩
end

/-- A file of its own lies in block g. -/
def FileAt (w : World) (g : Nat) (f : Fm) : Prop := w.heap[g]? = some (.cells f.cells.toArray 42 (0, 0))
section
variable {w w' : World} {g : Nat} {f : Fm}
theorem FileAt.c0 (k : FileAt w g f) : w.cell? ⟨g, 0, none⟩ = some (.string f.p) := by simp [World.cell?, show w.heap[g]? = _ from k, Fm.cells]
theorem FileAt.c1 (k : FileAt w g f) : w.cell? ⟨g, 1, none⟩ = some (.bool f.d) := by simp [World.cell?, show w.heap[g]? = _ from k, Fm.cells]
theorem FileAt.c2 (k : FileAt w g f) : w.cell? ⟨g, 2, none⟩ = some (.slice f.a f.ls.length f.c) := by simp [World.cell?, show w.heap[g]? = _ from k, Fm.cells]
theorem FileAt.fz (k : FileAt w g f) (i : Nat) : w.frozen? ⟨g, i, none⟩ = false := by simp [World.frozen?, show w.heap[g]? = _ from k]
theorem FileAt.lt (k : FileAt w g f) : g < w.heap.size := (Array.getElem?_eq_some_iff.1 k).1
theorem FileAt.on (k : FileAt w g f) (hb : Below w.heap.size w w') : FileAt w' g f := (hb.block g k.lt).trans k
theorem FileAt.grown {row : Option Nat} (k : FileAt w g f) (hg : w.grownBy w' row) (hr : row ≠ some g) : FileAt w' g f := (hg.block g k.lt (fun e => hr e.symm)).trans k
theorem FileAt.new_ (w : World) (f : Fm) : FileAt (w.alloc (.cells f.cells.toArray 42)) w.heap.size f := heap_alloc_new w _
end

def fcells (fs : List Fm) : List Value := fs.flatMap Fm.cells
theorem fcells_len : ∀ (fs : List Fm), (fcells fs).length = fs.length * 3
  | [] => rfl
  | h :: fs => by
    have := fcells_len fs
    simp only [fcells, List.flatMap_cons, List.length_append, List.length_cons] at *
    rw [this]
    show 3 + _ = _
    omega
theorem fcells_get : ∀ (fs : List Fm) (j : Nat) (hj : j < fs.length), (fcells fs)[j * 3]? = some (.string fs[j].p) ∧ (fcells fs)[j * 3 + 1]? = some (.bool fs[j].d) ∧ (fcells fs)[j * 3 + 2]? = some (.slice fs[j].a fs[j].ls.length fs[j].c)
  | h :: fs, 0, hj => ⟨rfl, rfl, rfl⟩
  | h :: fs, j + 1, hj => by
    have ih := fcells_get fs j (by simpa using hj)
    have e : ∀ r, (fcells (h :: fs))[(j + 1) * 3 + r]? = (fcells fs)[j * 3 + r]? := by
      intro r
      have e1 : fcells (h :: fs) = h.cells ++ fcells fs := rfl
      rw [e1, List.getElem?_append_right (by show 3 ≤ _; omega)]
      congr 1
      show _ - 3 = _
      omega
    have e0 := e 0
    rw [Nat.add_zero, Nat.add_zero] at e0
    rw [e0, e 1, e 2]
    exact ih
theorem fcells_app (a b : List Fm) : fcells (a ++ b) = fcells a ++ fcells b := by simp [fcells]
/-- Each place of a row of cells is one of a file's. -/
theorem fcells_at (fs : List Fm) (i : Nat) (h : i < fs.length * 3) : ∃ j r, j < fs.length ∧ r < 3 ∧ i = j * 3 + r := ⟨i / 3, i % 3, by omega, by omega, by omega⟩
/-- A slice of files that the call made. -/
def OwnF (w : World) (B : Nat) (v : Value) (fs : List Fm) : Prop := w.ownsRow B 42 3 v fs.length (fcells fs)
theorem OwnF.nil (w : World) (B : Nat) : OwnF w B (.slice none 0 0) [] := w.ownsRow_nil B 42 3
theorem OwnF.fs {w : World} {B : Nat} {v : Value} {fs : List Fm} (h : OwnF w B v fs) (hok : ∀ f ∈ fs, f.Ok w w.heap.size) : ∃ A cap, v = .slice A fs.length cap ∧ Fs w w.heap.size A fs ∧ Room A fs.length cap := by
  have h' := h
  rcases h.2 with ⟨rfl, h0⟩ | ⟨g, cap, cur, rfl, _, hg, hcap, _⟩
  · have e : fs = [] := List.length_eq_zero_iff.1 h0
    subst e
    exact ⟨none, 0, rfl, Fs.nil, fun _ => rfl, Nat.le_refl _⟩
  · refine ⟨_, cap, rfl, ⟨fun hp => ⟨g, 0, rfl, (Array.getElem?_eq_some_iff.1 hg).1, fun j hj => ?_⟩, hok⟩, (fun e => by cases e), hcap⟩
    obtain ⟨c0, c1, c2⟩ := fcells_get fs j hj
    have e : ∀ i, (⟨g, 0, none⟩ : Addr).add i = ⟨g, i, none⟩ := fun i => by unfold Addr.add; split <;> simp_all
    have k0 := h'.cells (g := g) rfl _ _ c0
    have k1 := h'.cells (g := g) rfl _ _ c1
    have k2 := h'.cells (g := g) rfl _ _ c2
    rw [e] at k0 k1 k2
    rw [Nat.zero_add]
    exact ⟨k0, k1, k2⟩
theorem info_file : (Tryz.prog.info? 42).map (fun i => (i.zero, i.size, i.bytes)) = some (some (.agg #[.string ByteArray.empty, .bool false, .slice none 0 0]), 3, 48) := by kernel_rfl
end Go.Proofs.YtempamboacbgiaaGreatDoor
namespace Go.Proofs.YtempamboacbgiaaGreatDoor
open Go.RowKit
set_option linter.unusedVariables false

theorem oneCell_file (fs : List Fm) : ∀ u ∈ fcells fs, u.oneCell' = true := by
  intro u hu
  unfold fcells at hu
  rw [List.mem_flatMap] at hu
  obtain ⟨f, _, h⟩ := hu
  simp only [Fm.cells, List.mem_cons, List.not_mem_nil, or_false] at h
  rcases h with rfl | rfl | rfl <;> rfl
/-- The cells of files lie at A. -/
def FCells (w : World) (A : Option Addr) (tt : List Fm) : Prop := 0 < tt.length → ∃ b off, A = some ⟨b, off, none⟩ ∧ ∀ j u, (fcells tt)[j]? = some u → w.cell? ⟨b, off + j, none⟩ = some u
theorem Fs.cells {w : World} {B : Nat} {A : Option Addr} {tt : List Fm} (h : Fs w B A tt) : FCells w A tt := fun hp => by
  obtain ⟨b, off, e, hlt, hc⟩ := h.at_ hp
  refine ⟨b, off, e, fun j u hu => ?_⟩
  obtain ⟨hj, _⟩ := List.getElem?_eq_some_iff.1 hu
  rw [fcells_len] at hj
  obtain ⟨q, r, hq, hr, rfl⟩ := fcells_at tt j hj
  obtain ⟨c0, c1, c2⟩ := hc q hq
  obtain ⟨d0, d1, d2⟩ := fcells_get tt q hq
  rw [← Nat.add_assoc]
  match r, hr with
  | 0, _ => rw [Nat.add_zero] at hu ⊢; rw [d0] at hu; rw [c0, hu]
  | 1, _ => rw [d1] at hu; rw [c1, hu]
  | 2, _ => rw [d2] at hu; rw [c2, hu]
theorem FileAt.cells {w : World} {g : Nat} {f : Fm} (h : FileAt w g f) : FCells w (some ⟨g, 0, none⟩) [f] := fun _ => by
  refine ⟨g, 0, rfl, fun j u hu => ?_⟩
  have e : fcells [f] = f.cells := by simp [fcells]
  rw [e] at hu
  have hj := (List.getElem?_eq_some_iff.1 hu).1
  have hj3 : j < 3 := hj
  rw [Nat.zero_add]
  match j, hj3 with
  | 0, _ => rw [h.c0]; exact hu
  | 1, _ => rw [h.c1]; exact hu
  | 2, _ => rw [h.c2]; exact hu
theorem FCells.take {w : World} {A : Option Addr} {tt : List Fm} (h : FCells w A tt) (k : Nat) : FCells w A (tt.take k) := fun hp => by
  rw [List.length_take] at hp
  obtain ⟨b, off, e, hc⟩ := h (by omega)
  refine ⟨b, off, e, fun j u hu => hc j u ?_⟩
  have hj := (List.getElem?_eq_some_iff.1 hu).1
  have e2 : fcells tt = fcells (tt.take k) ++ fcells (tt.drop k) := by rw [← fcells_app, List.take_append_drop]
  rw [e2, List.getElem?_append_left hj]
  exact hu
theorem FCells.drop {w : World} {b off : Nat} {tt : List Fm} (h : FCells w (some ⟨b, off, none⟩) tt) (k : Nat) : FCells w (some ⟨b, off + k * 3, none⟩) (tt.drop k) := fun hp => by
  rw [List.length_drop] at hp
  obtain ⟨b', off', e, hc⟩ := h (by omega)
  cases e
  refine ⟨b, off + k * 3, rfl, fun j u hu => ?_⟩
  have e2 : fcells tt = fcells (tt.take k) ++ fcells (tt.drop k) := by rw [← fcells_app, List.take_append_drop]
  have hl : (fcells (tt.take k)).length = k * 3 := by rw [fcells_len, List.length_take]; omega
  rw [Nat.add_assoc]
  refine hc _ _ ?_
  rw [e2, List.getElem?_append_right (by omega), hl, Nat.add_sub_cancel_left]
  exact hu
theorem FCells.on {w w' : World} {A : Option Addr} {tt : List Fm} (h : FCells w A tt) (hb : Below w.heap.size w w') : FCells w' A tt := fun hp => by
  obtain ⟨b, off, e, hc⟩ := h hp
  refine ⟨b, off, e, fun j u hu => ?_⟩
  have h1 := hc j u hu
  have hlt : b < w.heap.size := by
    unfold World.cell? at h1
    rcases Nat.lt_or_ge b w.heap.size with h2 | h2
    · exact h2
    · rw [Array.getElem?_eq_none h2] at h1; simp at h1
  exact (hb.cell (p := ⟨b, off + j, none⟩) hlt).trans h1
theorem addr_add (b off a : Nat) : (⟨b, off, none⟩ : Addr).add a = ⟨b, off + a, none⟩ := by unfold Addr.add; split <;> simp_all
theorem wpList_append_files {w : World} {ops : Array Oper} {rest : List Oper} {o : Oper} {a : Act} {Q : Exit → Act → World → Prop} (hgd : o.guard = none) (s x : Operand)
    (ho : o.op = .call { callee := .builtin .append, args := #[s, x], argTypes := #[22, 22] })
    (B : Nat) (v : Value) (fs tt : List Fm) (hs : a.eval s = v) (hown : OwnF w B v fs) (A : Option Addr) (cap n : Nat) (hx : a.eval x = .slice A n cap) (hn : n = tt.length) (hnil : A = none → cap = 0) (ht : FCells w A tt) (hB : B ≤ w.heap.size) (hle : fs.length + tt.length ≤ 1000000)
    (h : ∀ v' w', OwnF w' B v' (fs ++ tt) → w.grownBy w' v.ownBlock → wpList Tryz.prog ops Q rest (a.put o.dst v') w') : wpList Tryz.prog ops Q (o :: rest) a w := by
  subst hn
  obtain ⟨i0, hi, hz0, hz1, hz2⟩ := info_parts info_file
  cases A with
  | none =>
    have h0 : tt = [] := by
      cases tt with
      | nil => rfl
      | cons y r => exact absurd (ht (by simp)) (by rintro ⟨_, _, e, _⟩; cases e)
    subst h0
    rw [hnil rfl] at hx
    refine wpList_append_own_none hgd s x 22 ho B 42 i0 3 Tryz.underlying22 hi v _ _ hs hown hx ?_
    exact h v w (by simpa using hown) ⟨rfl, rfl, rfl, Nat.le_refl _, fun _ _ _ => rfl⟩
  | some ad =>
    refine wpList_append_own w hgd s x 22 ho B 42 i0 _ 3 48 Tryz.underlying22 hi hz0 hz1 hz2 rfl (by decide) v fs.length (fcells fs) hs hown ad tt.length cap (fcells tt) hx (fcells_len tt) ?_ (oneCell_file tt) (by unfold maxLen; omega) (by omega) hB ?_
    · intro j u hu
      obtain ⟨hj, hju⟩ := List.getElem?_eq_some_iff.1 hu
      rw [fcells_len] at hj
      obtain ⟨b, off, e, hc⟩ := ht (by omega)
      simp only [Option.some.injEq] at e
      subst e
      rw [addr_add]
      exact hc j u hu
    · intro v' w' hown' hgrow _
      refine h v' w' ?_ hgrow
      unfold OwnF
      rw [List.length_append, fcells_app]
      exact hown'
theorem OwnF.slice {w : World} {B : Nat} {v : Value} {fs : List Fm} (h : OwnF w B v fs) : ∃ A cap, v = .slice A fs.length cap ∧ FCells w A fs ∧ Room A fs.length cap ∧ cap ≤ maxLen := by
  have h' := h
  rcases h.2 with ⟨rfl, h0⟩ | ⟨g, cap, cur, rfl, _, hg, hcap, hm, _⟩
  · have e : fs = [] := List.length_eq_zero_iff.1 h0
    subst e
    exact ⟨none, 0, rfl, fun h => absurd h (by simp), ⟨fun _ => rfl, Nat.le_refl _⟩, Nat.zero_le _⟩
  · refine ⟨_, cap, rfl, fun hp => ⟨g, 0, rfl, fun j u hu => ?_⟩, ⟨fun e => (by cases e), hcap⟩, hm⟩
    have k0 := h'.cells (g := g) rfl _ _ hu
    rw [addr_add] at k0
    exact k0
/-- The same, the new row's address and room named. -/
theorem wpList_append_frow {w : World} {ops : Array Oper} {rest : List Oper} {o : Oper} {a : Act} {Q : Exit → Act → World → Prop} (hgd : o.guard = none) (s x : Operand)
    (ho : o.op = .call { callee := .builtin .append, args := #[s, x], argTypes := #[22, 22] })
    (B : Nat) (v : Value) (fs tt : List Fm) (hs : a.eval s = v) (hown : OwnF w B v fs) (A : Option Addr) (cap n : Nat) (hx : a.eval x = .slice A n cap) (hn : n = tt.length) (hnil : A = none → cap = 0) (ht : FCells w A tt) (hB : B ≤ w.heap.size) (hle : fs.length + tt.length ≤ 1000000)
    (m : Nat) (hm : m = fs.length + tt.length)
    (h : ∀ A' cap' w', OwnF w' B (.slice A' m cap') (fs ++ tt) → w.grownBy w' v.ownBlock → wpList Tryz.prog ops Q rest (a.put o.dst (.slice A' m cap')) w') : wpList Tryz.prog ops Q (o :: rest) a w := by
  refine wpList_append_files hgd s x ho B v fs tt hs hown A cap n hx hn hnil ht hB hle fun v' w' ho' hg' => ?_
  obtain ⟨A', cap', rfl, _, _, _⟩ := ho'.slice
  have e : (fs ++ tt).length = m := by rw [List.length_append, hm]
  rw [e] at ho' ⊢
  exact h A' cap' w' ho' hg'
/-- Where a row that a call made begins. -/
theorem OwnF.addr {w : World} {B n cap : Nat} {A : Option Addr} {fs : List Fm} (h : OwnF w B (.slice A n cap) fs) : n = fs.length ∧ Room A fs.length cap ∧ (A = none ∨ ∃ b off, A = some ⟨b, off, none⟩) := by
  rcases h.2 with ⟨e, h0⟩ | ⟨g, c, cur, e, _, hg, hcap, _⟩
  · simp only [Value.slice.injEq] at e
    obtain ⟨rfl, rfl, rfl⟩ := e
    exact ⟨h0.symm, ⟨fun _ => rfl, by omega⟩, .inl rfl⟩
  · simp only [Value.slice.injEq] at e
    obtain ⟨rfl, rfl, rfl⟩ := e
    exact ⟨rfl, ⟨fun e => (by cases e), hcap⟩, .inr ⟨g, 0, rfl⟩⟩
theorem OwnF.fcells {w : World} {B n cap : Nat} {A : Option Addr} {fs : List Fm} (h : OwnF w B (.slice A n cap) fs) : FCells w A fs := by
  obtain ⟨A', cap', e, hc, _, _⟩ := h.slice
  simp only [Value.slice.injEq] at e
  obtain ⟨rfl, _, rfl⟩ := e
  exact hc
theorem FCells.get {w : World} {A : Option Addr} {fs : List Fm} (h : FCells w A fs) {j : Nat} (hj : j < fs.length) : ∃ b off, A = some ⟨b, off, none⟩ ∧ w.cell? ⟨b, off + j * 3, none⟩ = some (.string fs[j].p) ∧
    w.cell? ⟨b, off + j * 3 + 1, none⟩ = some (.bool fs[j].d) ∧ w.cell? ⟨b, off + j * 3 + 2, none⟩ = some (.slice fs[j].a fs[j].ls.length fs[j].c) := by
  obtain ⟨b, off, e, hc⟩ := h (by omega)
  obtain ⟨d0, d1, d2⟩ := fcells_get fs j hj
  have k0 := hc _ _ d0
  have k1 := hc _ _ d1
  have k2 := hc _ _ d2
  rw [← Nat.add_assoc] at k1 k2
  exact ⟨b, off, e, k0, k1, k2⟩
theorem OwnF.kept {w w' : World} {B : Nat} {v : Value} {fs : List Fm} (h : OwnF w B v fs) (hb : Below w.heap.size w w') : OwnF w' B v fs :=
  World.ownsRow.kept h (row := none) ⟨hb.os, hb.tape, hb.output, hb.size, fun i hi _ => hb.block i hi⟩ (by cases v.ownBlock <;> simp)
theorem OwnF.more {w : World} {B B' : Nat} {v : Value} {fs : List Fm} (h : OwnF w B v fs) (hB : B' ≤ B) : OwnF w B' v fs := by
  refine ⟨h.1, h.2.imp id ?_⟩
  rintro ⟨g, cap, cur, e, hb, r⟩
  exact ⟨g, cap, cur, e, by omega, r⟩
theorem ownBlock_gef {w : World} {B : Nat} {v : Value} {fs : List Fm} (h : OwnF w B v fs) : ∀ k, v.ownBlock = some k → B ≤ k := fun k hk => (World.ownsRow.lt h k hk).1
theorem below_appendf {w0 w w' : World} {B : Nat} {v : Value} {fs : List Fm} (hb : Below B w0 w) (ho : OwnF w B v fs) (hg : w.grownBy w' v.ownBlock) (hB : B ≤ w0.heap.size) : Below B w0 w' :=
  hb.grown hg (Nat.le_trans hB hb.size) (ownBlock_gef ho)
theorem own_madef (w : World) (B : Nat) (hB : B ≤ w.heap.size) : OwnF (w.alloc (.cells #[] 42)) B (.slice (some ⟨w.heap.size, 0, none⟩) 0 0) [] :=
  w.ownsRow_made #[] 0 hB (Nat.zero_le _) rfl
/-- A call hands back a row of files, that it made; their lines lie where they lay. -/
def RowF (w : World) (fs : List Fm) (e : Ending) (w' : World) : Prop := ∃ v, e = .returned v ∧ OwnF w' w.heap.size v fs ∧ Below w.heap.size w w'

/-- A part of a row of files: its address, its room. -/
structure PartF (A : Option Addr) (A' : Option Addr) (cap' : Nat) (fs fd : List Fm) (i : Nat) : Prop where
  cells : ∀ (w : World), FCells w A fs → FCells w A' fd
  room : Room A' fd.length cap'
theorem size_file : (Tryz.prog.info? 42).map (·.size) = some 3 := by kernel_rfl
theorem run_slice_files (A : Option Addr) (n cap i j : Nat) (low high : Option Value) (w : World) (hij : i ≤ j) (hj : j ≤ n) (hn : n ≤ cap) (hlow : low = some (.int .i64 (i : Int)) ∨ (low = none ∧ i = 0)) (hhigh : high = some (.int .i64 (j : Int)) ∨ (high = none ∧ j = n)) :
    (Instr.slice 22 (.slice A n cap) low high none).run Tryz.prog w = .ok (.slice (if cap = i then A else A.map (·.add (i * 3))) (j - i) (cap - i)) w := by
  have hb : ∀ w, (Instr.sliceBounds true n cap low high none).run Tryz.prog w = .ok (i, j, cap) w := by
    intro w
    have hi2 : (i : Int) ≤ (j : Int) := by omega
    have hj2 : (j : Int) ≤ (cap : Int) := by omega
    have hi3 : (i : Int) ≤ (n : Int) := by omega
    rcases hlow with rfl | ⟨rfl, rfl⟩ <;> rcases hhigh with rfl | ⟨rfl, rfl⟩ <;> simp [Instr.sliceBounds, Instr.sliceBound, asIntOf, go_sem, hij, show j ≤ cap by omega] <;> intros <;> omega
  obtain ⟨d, hd, hs⟩ : ∃ d, Tryz.prog.info? 42 = some d ∧ d.size = 3 := by
    have := size_file
    cases h : Tryz.prog.info? 42 with
    | none => rw [h] at this; cases this
    | some d => rw [h] at this; exact ⟨d, rfl, by simpa using this⟩
  unfold Instr.slice
  rw [Sem.run_bind, run_underlying Tryz.underlying22, Result.andThen_ok]
  simp only []
  rw [Sem.run_bind, hb, Result.andThen_ok]
  simp [sizeOf, typeInfo, hd, hs, Sem.run_bind]
theorem partf_of (A : Option Addr) (fs : List Fm) (cap i j : Nat) (hr : Room A fs.length cap) (hA : A = none ∨ ∃ b off, A = some ⟨b, off, none⟩) (hij : i ≤ j) (hj : j ≤ fs.length) :
    ∃ A' cap' fd, fd = (fs.drop i).take (j - i) ∧ PartF A A' cap' fs fd i ∧ ∀ (low high : Option Value) (w : World), (low = some (.int .i64 (i : Int)) ∨ (low = none ∧ i = 0)) → (high = some (.int .i64 (j : Int)) ∨ (high = none ∧ j = fs.length)) →
      (Instr.slice 22 (.slice A fs.length cap) low high none).run Tryz.prog w = .ok (.slice A' fd.length cap') w := by
  have hl : ((fs.drop i).take (j - i)).length = j - i := by rw [List.length_take, List.length_drop]; omega
  refine ⟨if cap = i then A else A.map (·.add (i * 3)), cap - i, (fs.drop i).take (j - i), rfl, ⟨fun w hs => ?_, ?_⟩, fun low high w h1 h2 => ?_⟩
  · by_cases hc : cap = i
    · have hz : (fs.drop i).take (j - i) = [] := by
        rw [← List.length_eq_zero_iff, hl]
        have := hr.2
        omega
      rw [hz]
      exact fun h => absurd h (by simp)
    · rw [if_neg hc]
      rcases hA with rfl | ⟨b, off, rfl⟩
      · have := hr.1 rfl
        have := hr.2
        have hz : (fs.drop i).take (j - i) = [] := by
          rw [← List.length_eq_zero_iff, hl]
          omega
        rw [hz]
        exact fun h => absurd h (by simp)
      · rw [Option.map_some, addr_add]
        exact (hs.drop i).take (j - i)
  · rw [hl]
    refine ⟨fun hA => ?_, by have := hr.2; omega⟩
    by_cases hc : cap = i
    · omega
    · rw [if_neg hc] at hA
      have : A = none := by cases A <;> simp_all
      have := hr.1 this
      omega
  · rw [hl]
    exact run_slice_files A fs.length cap i j low high w hij hj hr.2 h1 h2
end Go.Proofs.YtempamboacbgiaaGreatDoor
