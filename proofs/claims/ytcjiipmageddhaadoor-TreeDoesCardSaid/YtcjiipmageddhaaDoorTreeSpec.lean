
/- What package tree's calls are to do, as words: each is to be proved of the landed code. A tree of one field, a slice; Tr: what a tree is. -/
import Derived.Test.YtcjiipmageddhaaDoorTreePlain
import Derived.Test.YtcjiipmageddhaaDoorTreeA
import Derived.Test.YtcjiipmageddhaaDoorRefLine
import Derived.Test.YtcjiipmageddhaaDoorHeld
namespace Go.Proofs.YtcjiipmageddhaaDoor
open Go.RowKit
set_option linter.unusedVariables false

/-- A tree and an error come back: the tree, or the empty one. -/
def TreeLeft (Tr : World → Option Addr → Nat → Nat → List PF → Prop) (w : World) (er : Int) (res : List PF) (e : Ending) (w' : World) : Prop :=
  ∃ A' n' c', e = .returned (.tuple #[.agg #[.slice A' n' c'], .int .i64 er]) ∧ Hid ((er = 0 → Tr w' A' n' c' res) ∧ (er ≠ 0 → Tr w' A' n' c' [])) ∧ Below w.heap.size w w'
/-- Files come back. -/
def FilesLeft (w : World) (ks : List PF) (e : Ending) (w' : World) : Prop :=
  ∃ (A : Option Addr) (fs : List Fm) (cap : Nat), e = .returned (.slice A (List.length (α := Fm) fs) cap) ∧ Hid (Fs w' w'.heap.size A fs ∧ Room A fs.length cap ∧ fkeys fs = ks) ∧ Below w.heap.size w w'
/-- A file comes back, or none. -/
def FileLeft (w : World) (o : Option PF) (e : Ending) (w' : World) : Prop :=
  ∃ f : Fm, e = .returned (.tuple #[.agg #[.string f.p, .bool f.d, .slice f.a f.ls.length f.c], .bool o.isSome]) ∧ Hid (f.Ok w' w'.heap.size ∧ ∀ k, o = some k → f.key = k) ∧ Below w.heap.size w w'
def inK (ks : List PF) (p : List UInt8) : List (List UInt8) := (ks.filter fun k => decide (dirP nameP k.1 = p)).map (·.1)
def filesK (ks : List PF) : Nat := (ks.filter fun k => !k.2.1).length
def dirsK (ks : List PF) : Nat := (ks.filter fun k => k.2.1).length
/-- Lines that are not far too long. -/
def LightK (ls : List (List UInt8)) : Prop := ls.length ≤ 60 ∧ ∀ x ∈ ls, x.length ≤ 300

/-- All of package tree. -/
structure TreeC (Tr : World → Option Addr → Nat → Nat → List PF → Prop) : Prop where
  on : ∀ {w w' : World} {A : Option Addr} {n c : Nat} {ks : List PF}, Tr w A n c ks → Below w.heap.size w w' → Tr w' A n c ks
  set : ∀ {w w' : World} {A : Option Addr} {n c : Nat} {ks : List PF} {G : Nat} {A2 : Option Addr} {n2 c2 : Nat}, Tr w A n c ks → TAt w G A2 n2 c2 → w.grownBy w' (some G) → Tr w' A n c ks
  zero : ∀ w, Tr w none 0 0 []
  mkdir : ∀ (B : Option Addr) (n c : Nat) (ks : List PF) (p : ByteArray) (er : Int) (res : List PF) (w : World), Tr w B n c ks → ks.length ≤ 100 → p.size ≤ 1000 → doK ks 0 p.data.toList [] [] 0 = (er, res) → Calls Tryd.prog 16 #[.agg #[.slice B n c], .string p] w (TreeLeft Tr w er res)
  write : ∀ (B : Option Addr) (n c : Nat) (ks : List PF) (p : ByteArray) (A : Option Addr) (ls : List (List UInt8)) (cap : Nat) (er : Int) (res : List PF) (w : World), Tr w B n c ks → ks.length ≤ 100 → p.size ≤ 1000 → Strs w w.heap.size A (toBs ls) → Room A ls.length cap → LightK ls → Tabs w → doK ks 1 p.data.toList [] ls (checkN (toBs ls)) = (er, res) →
    Calls Tryd.prog 17 #[.agg #[.slice B n c], .string p, .slice A ls.length cap] w (TreeLeft Tr w er res)
  remove : ∀ (B : Option Addr) (n c : Nat) (ks : List PF) (p : ByteArray) (er : Int) (res : List PF) (w : World), Tr w B n c ks → ks.length ≤ 100 → p.size ≤ 1000 → doK ks 2 p.data.toList [] [] 0 = (er, res) → Calls Tryd.prog 20 #[.agg #[.slice B n c], .string p] w (TreeLeft Tr w er res)
  move : ∀ (B : Option Addr) (n c : Nat) (ks : List PF) (p q : ByteArray) (er : Int) (res : List PF) (w : World), Tr w B n c ks → ks.length ≤ 100 → p.size ≤ 1000 → q.size ≤ 1000 → doK ks 3 p.data.toList q.data.toList [] 0 = (er, res) → Calls Tryd.prog 18 #[.agg #[.slice B n c], .string p, .string q] w (TreeLeft Tr w er res)
  all : ∀ (B : Option Addr) (n c : Nat) (ks : List PF) (w : World), Tr w B n c ks → ks.length ≤ 100 → Calls Tryd.prog 8 #[.agg #[.slice B n c]] w (FilesLeft w ks)
  get : ∀ (B : Option Addr) (n c : Nat) (ks : List PF) (p : ByteArray) (w : World), Tr w B n c ks → ks.length ≤ 100 → p.size ≤ 1000 → Calls Tryd.prog 11 #[.agg #[.slice B n c], .string p] w (FileLeft w (ks.find? fun k => decide (k.1 = p.data.toList)))
  in_ : ∀ (B : Option Addr) (n c : Nat) (ks : List PF) (p : ByteArray) (w : World), Tr w B n c ks → ks.length ≤ 100 → p.size ≤ 1000 → Calls Tryd.prog 15 #[.agg #[.slice B n c], .string p] w (RowLeft w (inK ks p.data.toList))
  size : ∀ (B : Option Addr) (n c : Nat) (ks : List PF) (w : World), Tr w B n c ks → ks.length ≤ 100 → Calls Tryd.prog 9 #[.agg #[.slice B n c]] w fun e w' => e = .returned (.tuple #[.int .i64 (filesK ks : Int), .int .i64 (dirsK ks : Int)]) ∧ Below w.heap.size w w'
  same : ∀ (B : Option Addr) (n c : Nat) (ks : List PF) (B2 : Option Addr) (n2 c2 : Nat) (js : List PF) (w : World), Tr w B n c ks → Tr w B2 n2 c2 js → ks.length ≤ 100 → js.length ≤ 100 → Calls Tryd.prog 19 #[.agg #[.slice B n c], .agg #[.slice B2 n2 c2]] w fun e w' => e = .returned (.bool (decide (ks = js))) ∧ Below w.heap.size w w'
end Go.Proofs.YtcjiipmageddhaaDoor
