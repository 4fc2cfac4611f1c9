
/- Words for memory: rows of files. -/
import Derived.Test.YtcjiipmageddhaaDoorAppend
import Derived.Deep.AppendLies
import Derived.BigQuiet
import Derived.Deep.QuietTactic
import Derived.Handy
namespace Go.Proofs.YtcjiipmageddhaaDoor
open Go.RowKit
set_option linter.unusedVariables false

/-- What a file says: its path, is it a directory, its lines. -/
abbrev PF := List UInt8 × Bool × List (List UInt8)
/-- A file as it lies: its path, is it a directory, and its lines' slice, with the lines that it holds. -/
structure Fm where
  p : ByteArray
  d : Bool
  a : Option Addr
  c : Nat
  ls : List (List UInt8)
def Fm.cells (f : Fm) : List Value := [.string f.p, .bool f.d, .slice f.a f.ls.length f.c]
/-- Its lines lie below B. -/
structure Fm.Ok (f : Fm) (w : World) (B : Nat) : Prop where
  ls : Strs w B f.a (toBs f.ls)
  r : Room f.a f.ls.length f.c
def Fm.key (f : Fm) : PF := (f.p.data.toList, f.d, f.ls)
def fkeys (fs : List Fm) : List PF := fs.map Fm.key
theorem fkeys_len (fs : List Fm) : (fkeys fs).length = fs.length := by simp [fkeys]
theorem fkeys_get (fs : List Fm) (j : Nat) (h : j < (fkeys fs).length) : (fkeys fs)[j] = (fs[j]'(by rw [fkeys_len] at h; exact h)).key := by simp [fkeys]
/-- Files lie at A, three cells each, in a block below B. -/
structure Fs (w : World) (B : Nat) (A : Option Addr) (fs : List Fm) : Prop where
  at_ : 0 < fs.length → ∃ b off, A = some ⟨b, off, none⟩ ∧ b < B ∧ ∀ j (h : j < fs.length), w.cell? ⟨b, off + j * 3, none⟩ = some (.string fs[j].p) ∧
    w.cell? ⟨b, off + j * 3 + 1, none⟩ = some (.bool fs[j].d) ∧ w.cell? ⟨b, off + j * 3 + 2, none⟩ = some (.slice fs[j].a fs[j].ls.length fs[j].c)
  ok : ∀ f ∈ fs, f.Ok w B

section
variable {w w' : World} {B B' : Nat} {A : Option Addr} {fs : List Fm} {f : Fm}
theorem Fm.Ok.below (k : f.Ok w B) (hb : Below B w w') : f.Ok w' B := ⟨k.ls.below hb, k.r⟩
theorem Fm.Ok.more (k : f.Ok w B) (hB : B ≤ B') : f.Ok w B' := ⟨k.ls.more hB, k.r⟩
theorem Fm.Ok.on (k : f.Ok w w.heap.size) (hb : Below w.heap.size w w') : f.Ok w' w'.heap.size := (k.below hb).more hb.size
theorem Fs.below (k : Fs w B A fs) (hb : Below B w w') : Fs w' B A fs :=
  ⟨fun hp => by
    obtain ⟨b, off, e, hlt, hc⟩ := k.at_ hp
    refine ⟨b, off, e, hlt, fun j hj => ?_⟩
    obtain ⟨h1, h2, h3⟩ := hc j hj
    exact ⟨(hb.cell (p := ⟨b, _, none⟩) hlt).trans h1, (hb.cell (p := ⟨b, _, none⟩) hlt).trans h2, (hb.cell (p := ⟨b, _, none⟩) hlt).trans h3⟩, fun h hh => (k.ok h hh).below hb⟩
theorem Fs.more (k : Fs w B A fs) (hB : B ≤ B') : Fs w B' A fs :=
  ⟨fun hp => by
    obtain ⟨b, off, e, hlt, hc⟩ := k.at_ hp
    exact ⟨b, off, e, by omega, hc⟩, fun h hh => (k.ok h hh).more hB⟩
theorem Fs.on (k : Fs w w.heap.size A fs) (hb : Below w.heap.size w w') : Fs w' w'.heap.size A fs := (k.below hb).more hb.size
theorem Fs.nil : Fs w B A [] := ⟨fun h => absurd h (by simp), fun h hh => by cases hh⟩
theorem Fs.get (k : Fs w B A fs) {j : Nat} (hj : j < fs.length) : ∃ b off, A = some ⟨b, off, none⟩ ∧ b < B ∧ w.cell? ⟨b, off + j * 3, none⟩ = some (.string fs[j].p) ∧
    w.cell? ⟨b, off + j * 3 + 1, none⟩ = some (.bool fs[j].d) ∧ w.cell? ⟨b, off + j * 3 + 2, none⟩ = some (.slice fs[j].a fs[j].ls.length fs[j].c) := by
  obtain ⟨b, off, e, hlt, hc⟩ := k.at_ (by omega)
  exact ⟨b, off, e, hlt, hc j hj⟩
end

/-- A file of its own lies in block g. -/
def FileAt (w : World) (g : Nat) (f : Fm) : Prop := w.heap[g]? = some (.cells f.cells.toArray 41 (0, 0))
section
variable {w w' : World} {g : Nat} {f : Fm}
theorem FileAt.c0 (k : FileAt w g f) : w.cell? ⟨g, 0, none⟩ = some (.string f.p) := by simp [World.cell?, show w.heap[g]? = _ from k, Fm.cells]
theorem FileAt.c1 (k : FileAt w g f) : w.cell? ⟨g, 1, none⟩ = some (.bool f.d) := by simp [World.cell?, show w.heap[g]? = _ from k, Fm.cells]
theorem FileAt.c2 (k : FileAt w g f) : w.cell? ⟨g, 2, none⟩ = some (.slice f.a f.ls.length f.c) := by simp [World.cell?, show w.heap[g]? = _ from k, Fm.cells]
theorem FileAt.fz (k : FileAt w g f) (i : Nat) : w.frozen? ⟨g, i, none⟩ = false := by simp [World.frozen?, show w.heap[g]? = _ from k]
theorem FileAt.lt (k : FileAt w g f) : g < w.heap.size := (Array.getElem?_eq_some_iff.1 k).1
theorem FileAt.on (k : FileAt w g f) (hb : Below w.heap.size w w') : FileAt w' g f := (hb.block g k.lt).trans k
theorem FileAt.grown {row : Option Nat} (k : FileAt w g f) (hg : w.grownBy w' row) (hr : row ≠ some g) : FileAt w' g f := (hg.block g k.lt (fun e => hr e.symm)).trans k
theorem FileAt.new_ (w : World) (f : Fm) : FileAt (w.alloc (.cells f.cells.toArray 41)) w.heap.size f := heap_alloc_new w _
end

def fcells (fs : List Fm) : List Value := fs.flatMap Fm.cells
theorem fcells_len : ∀ (fs : List Fm), (fcells fs).length = fs.length * 3
  | [] => rfl
  | h :: fs => by
    have := fcells_len fs
    simp only [fcells, List.flatMap_cons, List.length_append, List.length_cons] at *
    rw [this]
    show 3 + _ = _
    omega
theorem fcells_get : ∀ (fs : List Fm) (j : Nat) (hj : j < fs.length), (fcells fs)[j * 3]? = some (.string fs[j].p) ∧ (fcells fs)[j * 3 + 1]? = some (.bool fs[j].d) ∧ (fcells fs)[j * 3 + 2]? = some (.slice fs[j].a fs[j].ls.length fs[j].c)
  | h :: fs, 0, hj => ⟨rfl, rfl, rfl⟩
  | h :: fs, j + 1, hj => by
    have ih := fcells_get fs j (by simpa using hj)
    have e : ∀ r, (fcells (h :: fs))[(j + 1) * 3 + r]? = (fcells fs)[j * 3 + r]? := by
      intro r
      have e1 : fcells (h :: fs) = h.cells ++ fcells fs := rfl
      rw [e1, List.getElem?_append_right (by show 3 ≤ _; omega)]
      congr 1
      show _ - 3 = _
      omega
    have e0 := e 0
    rw [Nat.add_zero, Nat.add_zero] at e0
    rw [e0, e 1, e 2]
    exact ih
theorem fcells_app (a b : List Fm) : fcells (a ++ b) = fcells a ++ fcells b := by simp [fcells]
/-- Each place of a row of cells is one of a file's. -/
theorem fcells_at (fs : List Fm) (i : Nat) (h : i < fs.length * 3) : ∃ j r, j < fs.length ∧ r < 3 ∧ i = j * 3 + r := ⟨i / 3, i % 3, by omega, by omega, by omega⟩
/-- A slice of files that the call made. -/
def OwnF (w : World) (B : Nat) (v : Value) (fs : List Fm) : Prop := w.ownsRow B 41 3 v fs.length (fcells fs)
theorem OwnF.nil (w : World) (B : Nat) : OwnF w B (.slice none 0 0) [] := w.ownsRow_nil B 41 3
theorem OwnF.fs {w : World} {B : Nat} {v : Value} {fs : List Fm} (h : OwnF w B v fs) (hok : ∀ f ∈ fs, f.Ok w w.heap.size) : ∃ A cap, v = .slice A fs.length cap ∧ Fs w w.heap.size A fs ∧ Room A fs.length cap := by
  have h' := h
  rcases h.2 with ⟨rfl, h0⟩ | ⟨g, cap, cur, rfl, _, hg, hcap, _⟩
  · have e : fs = [] := List.length_eq_zero_iff.1 h0
    subst e
    exact ⟨none, 0, rfl, Fs.nil, fun _ => rfl, Nat.le_refl _⟩
  · refine ⟨_, cap, rfl, ⟨fun hp => ⟨g, 0, rfl, (Array.getElem?_eq_some_iff.1 hg).1, fun j hj => ?_⟩, hok⟩, (fun e => by cases e), hcap⟩
    obtain ⟨c0, c1, c2⟩ := fcells_get fs j hj
    have e : ∀ i, (⟨g, 0, none⟩ : Addr).add i = ⟨g, i, none⟩ := fun i => by unfold Addr.add; split <;> simp_all
    have k0 := h'.cells (g := g) rfl _ _ c0
    have k1 := h'.cells (g := g) rfl _ _ c1
    have k2 := h'.cells (g := g) rfl _ _ c2
    rw [e] at k0 k1 k2
    rw [Nat.zero_add]
    exact ⟨k0, k1, k2⟩
theorem info_file : (Tryd.prog.info? 41).map (fun i => (i.zero, i.size, i.bytes)) = some (some (.agg #[.string ByteArray.empty, .bool false, .slice none 0 0]), 3, 48) := by kernel_rfl
end Go.Proofs.YtcjiipmageddhaaDoor
