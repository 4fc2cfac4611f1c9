/- The reference's With of layer 6. The reference's Do of layer 6. Trees, plainly: what a call answers, by what files say. What package tree's calls are to do, as words: each is to be proved of the landed code. A tree of one field, a slice; Tr: what a tree is. Trees, plainly: files in order, each path once; what With and Without make of them. -/
import Derived.Test.YtknommnlkdlkdaaGreatDoorCk23
import Derived.Deep.RegionLaw
import Derived.Test.YtknommnlkdlkdaaGreatDoorCk22
import Derived.Test.YtknommnlkdlkdaaGreatDoorCk11
import Derived.Test.YtknommnlkdlkdaaGreatDoorCk02
import Derived.Test.YtknommnlkdlkdaaGreatDoorCk03
namespace Go.Proofs.YtknommnlkdlkdaaGreatDoor
open Go.RowKit
set_option linter.unusedVariables false

def withF (fs : List Fm) (f : Fm) : List Fm := sortF (withoutF fs f.p ++ [f])
theorem with_len (fs : List Fm) (f : Fm) : (withF fs f).length ≤ fs.length + 1 := by
  unfold withF
  rw [sort_len, List.length_append]
  have := without_len fs f.p
  simp
  omega
theorem with_mem {fs : List Fm} {f g : Fm} (h : g ∈ withF fs f) : g ∈ fs ∨ g = f := by
  unfold withF at h
  rw [sort_mem, List.mem_append, List.mem_singleton] at h
  exact h.imp (fun h => (List.mem_filter.1 h).1) id

theorem keep_file {w : World} {G : Nat} {f : Fm} (k : FileAt w G f) : w.cell? ⟨G, 0, none⟩ = some (.string f.p) ∧ w.cell? ⟨G, 1, none⟩ = some (.bool f.d) ∧ w.cell? ⟨G, 2, none⟩ = some (.slice f.a f.ls.length f.c) := ⟨k.c0, k.c1, k.c2⟩
theorem file_grown {w w' : World} {B G : Nat} {f : Fm} {v : Value} {fs : List Fm} (k : FileAt w G f) (ho : OwnF w B v fs) (hB : G < B) (hg : w.grownBy w' v.ownBlock) : FileAt w' G f := k.grown hg (fun e => by have := ownBlock_gef ho G e; omega)
end Go.Proofs.YtknommnlkdlkdaaGreatDoor
namespace Go.Proofs.YtknommnlkdlkdaaGreatDoor
open Go.RowKit
set_option linter.unusedVariables false

/-- A call as it lies. -/
structure Cm where
  kind : Int
  p : ByteArray
  dst : ByteArray
  a : Option Addr
  c : Nat
  ls : List (List UInt8)
def Cm.cells (c : Cm) : List Value := [.int .i64 c.kind, .string c.p, .string c.dst, .slice c.a c.ls.length c.c]
section
variable {w w' : World} {g : Nat} {c : Cm}
end
def rightP (p : ByteArray) : Bool := decide (names nameP p.data.toList ≠ [])
def upB (p : ByteArray) : ByteArray := toB (dirP nameP p.data.toList)
def childF (fs : List Fm) (p : ByteArray) : Bool := fs.any fun g => decide (upB g.p = p)
/-- What a call answers: its error, and the files behind it; ck: the error of its lines. -/
def doF (fs : List Fm) (c : Cm) (ck : Int) : Int × List Fm :=
  if rightP c.p = false ∨ ((c.kind < 0 ∨ 2 < c.kind) ∧ rightP c.dst = false) then (8, fs)
  else match fs.find? fun f => decide (f.p = c.p) with
  | none =>
    if c.kind = 0 then (if dirAt fs (upB c.p) = false then (9, fs) else (0, withF fs ⟨c.p, true, none, 0, []⟩))
    else if c.kind = 1 then (if ck ≠ 0 then (ck, fs) else if dirAt fs (upB c.p) = false then (9, fs) else (0, withF fs ⟨c.p, false, c.a, c.c, c.ls⟩))
    else (9, fs)
  | some f =>
    if c.kind = 0 then (10, fs)
    else if c.kind = 1 then (if f.d = true then (11, fs) else if ck ≠ 0 then (ck, fs) else (0, withF fs ⟨c.p, false, c.a, c.c, c.ls⟩))
    else if c.kind = 2 then (if childF fs c.p = true then (12, fs) else (0, withoutF fs c.p))
    else if f.d = true then (11, fs)
    else if (fs.find? fun g => decide (g.p = c.dst)).isSome = true then (10, fs)
    else if dirAt fs (upB c.dst) = false then (9, fs)
    else (0, withF (withoutF fs c.p) ⟨c.dst, false, f.a, f.c, f.ls⟩)
/-- Files and an error come back. -/
def DoLeft (w : World) (r : Int × List Fm) (e : Ending) (w' : World) : Prop :=
  ∃ A' cap', e = .returned (.tuple #[.slice A' r.2.length cap', .int .i64 r.1]) ∧ Fs w' w'.heap.size A' r.2 ∧ Room A' r.2.length cap' ∧ Below w.heap.size w w'
theorem child_no {fs : List Fm} {p : ByteArray} (h : ∀ j (hj : j < fs.length), upB fs[j].p ≠ p) : childF fs p = false := by
  unfold childF
  rw [List.any_eq_false]
  intro f hf
  obtain ⟨j, hj, rfl⟩ := List.getElem_of_mem hf
  simpa using h j hj
theorem child_yes {fs : List Fm} {p : ByteArray} {j : Nat} (hj : j < fs.length) (h : upB fs[j].p = p) : childF fs p = true := by
  unfold childF
  rw [List.any_eq_true]
  exact ⟨fs[j], List.getElem_mem _, by simpa using h⟩
end Go.Proofs.YtknommnlkdlkdaaGreatDoor
namespace Go.Proofs.YtknommnlkdlkdaaGreatDoor
open Go.RowKit
set_option linter.unusedVariables false

def lessK (x y : PF) : Bool := lessP nameP x.1 y.1
def placeK (x : PF) (out : List PF) : Nat → Nat
  | 0 => 0
  | j + 1 => match out[j]? with
    | some g => if lessK x g then placeK x out j else j + 1
    | none => j + 1
def insK (out : List PF) (x : PF) : List PF := out.take (placeK x out out.length) ++ [x] ++ out.drop (placeK x out out.length)
def sortK (l : List PF) : List PF := l.foldl insK []
def withoutK (ks : List PF) (p : List UInt8) : List PF := ks.filter fun k => decide (k.1 ≠ p)
def withK (ks : List PF) (x : PF) : List PF := sortK (withoutK ks x.1 ++ [x])
def dirK (ks : List PF) (p : List UInt8) : Bool := decide (p = []) || (match ks.find? fun k => decide (k.1 = p) with
  | some k => k.2.1
  | none => false)
def childK (ks : List PF) (p : List UInt8) : Bool := ks.any fun k => decide (dirP nameP k.1 = p)
/-- What a call answers: its error, and the files behind it; ck: the error of its lines. -/
def doK (ks : List PF) (kind : Int) (p dst : List UInt8) (ls : List (List UInt8)) (ck : Int) : Int × List PF :=
  if names nameP p = [] ∨ ((kind < 0 ∨ 2 < kind) ∧ names nameP dst = []) then (8, ks)
  else match ks.find? fun k => decide (k.1 = p) with
  | none =>
    if kind = 0 then (if dirK ks (dirP nameP p) = false then (9, ks) else (0, withK ks (p, true, [])))
    else if kind = 1 then (if ck ≠ 0 then (ck, ks) else if dirK ks (dirP nameP p) = false then (9, ks) else (0, withK ks (p, false, ls)))
    else (9, ks)
  | some f =>
    if kind = 0 then (10, ks)
    else if kind = 1 then (if f.2.1 = true then (11, ks) else if ck ≠ 0 then (ck, ks) else (0, withK ks (p, false, ls)))
    else if kind = 2 then (if childK ks p = true then (12, ks) else (0, withoutK ks p))
    else if f.2.1 = true then (11, ks)
    else if (ks.find? fun k => decide (k.1 = dst)).isSome = true then (10, ks)
    else if dirK ks (dirP nameP dst) = false then (9, ks)
    else (0, withK (withoutK ks p) (dst, false, f.2.2))

theorem key_less (x y : Fm) : lessF x y = lessK x.key y.key := rfl
theorem key_place (x : Fm) (out : List Fm) : ∀ n, placeF x out n = placeK x.key (fkeys out) n
  | 0 => rfl
  | j + 1 => by
    have ih := key_place x out j
    rw [placeF, placeK, fkeys, List.getElem?_map]
    cases h : out[j]? with
    | none => rfl
    | some g =>
      simp only [Option.map_some]
      rw [key_less, ih]
      rfl
theorem key_ins (out : List Fm) (x : Fm) : fkeys (insF out x) = insK (fkeys out) x.key := by
  unfold insF insK
  rw [← key_place, fkeys_len]
  simp [fkeys, List.map_take, List.map_drop]
theorem key_foldl : ∀ (l out : List Fm), fkeys (l.foldl insF out) = (fkeys l).foldl insK (fkeys out)
  | [], out => rfl
  | x :: l, out => by
    rw [List.foldl_cons, key_foldl l, key_ins]
    rfl
theorem key_sort (l : List Fm) : fkeys (sortF l) = sortK (fkeys l) := key_foldl l []
theorem key_eq (f : Fm) (p : ByteArray) : decide (f.p = p) = decide (f.key.1 = p.data.toList) := by
  rw [decide_eq_decide]
  exact ⟨fun h => by rw [← h]; rfl, fun h => bytes_inj h⟩
theorem key_without (fs : List Fm) (p : ByteArray) : fkeys (withoutF fs p) = withoutK (fkeys fs) p.data.toList := by
  unfold fkeys withoutF withoutK
  rw [List.filter_map]
  congr 1
  congr 1
  funext f
  have := key_eq f p
  simp only [Function.comp, decide_not]
  rw [this]
theorem key_with (fs : List Fm) (f : Fm) : fkeys (withF fs f) = withK (fkeys fs) f.key := by
  unfold withF withK
  rw [key_sort]
  congr 1
  show List.map Fm.key (_ ++ _) = _
  rw [List.map_append]
  show fkeys (withoutF fs f.p) ++ _ = _
  rw [key_without]
  rfl
theorem key_find (fs : List Fm) (p : ByteArray) : (fkeys fs).find? (fun k => decide (k.1 = p.data.toList)) = (fs.find? fun f => decide (f.p = p)).map Fm.key := by
  unfold fkeys
  rw [List.find?_map]
  congr 2
  funext f
  exact (key_eq f p).symm
theorem key_dir (fs : List Fm) (p : ByteArray) : dirAt fs p = dirK (fkeys fs) p.data.toList := by
  unfold dirAt dirK
  rw [key_find]
  congr 1
  · rw [decide_eq_decide]
    exact ⟨fun h => by rw [h], fun h => bytes_inj h⟩
  · cases fs.find? fun f => decide (f.p = p) <;> rfl
theorem up_list (p : ByteArray) : (upB p).data.toList = dirP nameP p.data.toList := of_toB _
theorem key_child (fs : List Fm) (p : ByteArray) : childF fs p = childK (fkeys fs) p.data.toList := by
  unfold childF childK fkeys
  rw [List.any_map]
  congr 1
  funext f
  simp only [Function.comp]
  rw [decide_eq_decide]
  constructor
  · intro h
    have := congrArg (fun s : ByteArray => s.data.toList) h
    simp only [up_list] at this
    exact this
  · intro h
    apply bytes_inj
    rw [up_list]
    exact h
theorem key_do (fs : List Fm) (c : Cm) (ck : Int) : (doF fs c ck).1 = (doK (fkeys fs) c.kind c.p.data.toList c.dst.data.toList c.ls ck).1 ∧ fkeys (doF fs c ck).2 = (doK (fkeys fs) c.kind c.p.data.toList c.dst.data.toList c.ls ck).2 := by
  have e1 : (rightP c.p = false ∨ ((c.kind < 0 ∨ 2 < c.kind) ∧ rightP c.dst = false)) = (names nameP c.p.data.toList = [] ∨ ((c.kind < 0 ∨ 2 < c.kind) ∧ names nameP c.dst.data.toList = [])) := by
    unfold rightP
    simp
  unfold doF doK
  rw [key_find, key_find, key_dir, key_dir, key_child, up_list, up_list]
  by_cases h : rightP c.p = false ∨ ((c.kind < 0 ∨ 2 < c.kind) ∧ rightP c.dst = false)
  · rw [if_pos h, if_pos (Eq.mp e1 h)]
    exact ⟨rfl, rfl⟩
  · rw [if_neg h, if_neg (fun k => h (Eq.mpr e1 k))]
    cases hf : fs.find? fun f => decide (f.p = c.p) with
    | none =>
      simp only [Option.map_none]
      split
      · split
        · exact ⟨rfl, rfl⟩
        · exact ⟨rfl, key_with _ _⟩
      · split
        · split
          · exact ⟨rfl, rfl⟩
          · split
            · exact ⟨rfl, rfl⟩
            · exact ⟨rfl, key_with _ _⟩
        · exact ⟨rfl, rfl⟩
    | some f =>
      simp only [Option.map_some, Option.isSome_map]
      split
      · exact ⟨rfl, rfl⟩
      · split
        · show _ ∧ _
          have : f.key.2.1 = f.d := rfl
          rw [this]
          split
          · exact ⟨rfl, rfl⟩
          · split
            · exact ⟨rfl, rfl⟩
            · exact ⟨rfl, key_with _ _⟩
        · split
          · split
            · exact ⟨rfl, rfl⟩
            · exact ⟨rfl, key_without _ _⟩
          · have : f.key.2.1 = f.d := rfl
            rw [this]
            split
            · exact ⟨rfl, rfl⟩
            · split
              · exact ⟨rfl, rfl⟩
              · split
                · exact ⟨rfl, rfl⟩
                · refine ⟨rfl, ?_⟩
                  show fkeys (withF _ _) = _
                  rw [key_with, key_without]
                  rfl
end Go.Proofs.YtknommnlkdlkdaaGreatDoor
namespace Go.Proofs.YtknommnlkdlkdaaGreatDoor
open Go.RowKit
set_option linter.unusedVariables false

/-- A tree and an error come back: the tree, or the empty one. -/
def TreeLeft (Tr : World → Option Addr → Nat → Nat → List PF → Prop) (w : World) (er : Int) (res : List PF) (e : Ending) (w' : World) : Prop :=
  ∃ A' n' c', e = .returned (.tuple #[.agg #[.slice A' n' c'], .int .i64 er]) ∧ Hid ((er = 0 → Tr w' A' n' c' res) ∧ (er ≠ 0 → Tr w' A' n' c' [])) ∧ Below w.heap.size w w'
/-- Files come back. -/
def FilesLeft (w : World) (ks : List PF) (e : Ending) (w' : World) : Prop :=
  ∃ (A : Option Addr) (fs : List Fm) (cap : Nat), e = .returned (.slice A (List.length (α := Fm) fs) cap) ∧ Hid (Fs w' w'.heap.size A fs ∧ Room A fs.length cap ∧ fkeys fs = ks) ∧ Below w.heap.size w w'
/-- A file comes back, or none. -/
def FileLeft (w : World) (o : Option PF) (e : Ending) (w' : World) : Prop :=
  ∃ f : Fm, e = .returned (.tuple #[.agg #[.string f.p, .bool f.d, .slice f.a f.ls.length f.c], .bool o.isSome]) ∧ Hid (f.Ok w' w'.heap.size ∧ ∀ k, o = some k → f.key = k) ∧ Below w.heap.size w w'
def inK (ks : List PF) (p : List UInt8) : List (List UInt8) := (ks.filter fun k => decide (dirP nameP k.1 = p)).map (·.1)
def filesK (ks : List PF) : Nat := (ks.filter fun k => !k.2.1).length
def dirsK (ks : List PF) : Nat := (ks.filter fun k => k.2.1).length
/-- All of package tree but Size. -/
structure TreeC (Tr : World → Option Addr → Nat → Nat → List PF → Prop) : Prop where
  on : ∀ {w w' : World} {A : Option Addr} {n c : Nat} {ks : List PF}, Tr w A n c ks → Below w.heap.size w w' → Tr w' A n c ks
  set : ∀ {w w' : World} {A : Option Addr} {n c : Nat} {ks : List PF} {G : Nat} {A2 : Option Addr} {n2 c2 : Nat}, Tr w A n c ks → TAt w G A2 n2 c2 → w.grownBy w' (some G) → Tr w' A n c ks
  zero : ∀ w, Tr w none 0 0 []
  mkdir : ∀ (B : Option Addr) (n c : Nat) (ks : List PF) (p : ByteArray) (er : Int) (res : List PF) (w : World), Tr w B n c ks → ks.length ≤ 400 → p.size ≤ 1000 → doK ks 0 p.data.toList [] [] 0 = (er, res) → Calls Tryz.prog 36 #[.agg #[.slice B n c], .string p] w (TreeLeft Tr w er res)
  write : ∀ (B : Option Addr) (n c : Nat) (ks : List PF) (p : ByteArray) (A : Option Addr) (ls : List (List UInt8)) (cap : Nat) (er : Int) (res : List PF) (w : World), Tr w B n c ks → ks.length ≤ 400 → p.size ≤ 1000 → Strs w w.heap.size A (toBs ls) → Room A ls.length cap → WideK ls → Tabs w → doK ks 1 p.data.toList [] ls (checkN (toBs ls)) = (er, res) →
    Calls Tryz.prog 70 #[.agg #[.slice B n c], .string p, .slice A ls.length cap] w (TreeLeft Tr w er res)
  remove : ∀ (B : Option Addr) (n c : Nat) (ks : List PF) (p : ByteArray) (er : Int) (res : List PF) (w : World), Tr w B n c ks → ks.length ≤ 400 → p.size ≤ 1000 → doK ks 2 p.data.toList [] [] 0 = (er, res) → Calls Tryz.prog 73 #[.agg #[.slice B n c], .string p] w (TreeLeft Tr w er res)
  move : ∀ (B : Option Addr) (n c : Nat) (ks : List PF) (p q : ByteArray) (er : Int) (res : List PF) (w : World), Tr w B n c ks → ks.length ≤ 400 → p.size ≤ 1000 → q.size ≤ 1000 → doK ks 3 p.data.toList q.data.toList [] 0 = (er, res) → Calls Tryz.prog 38 #[.agg #[.slice B n c], .string p, .string q] w (TreeLeft Tr w er res)
  get : ∀ (B : Option Addr) (n c : Nat) (ks : List PF) (p : ByteArray) (w : World), Tr w B n c ks → ks.length ≤ 400 → p.size ≤ 1000 → Calls Tryz.prog 69 #[.agg #[.slice B n c], .string p] w (FileLeft w (ks.find? fun k => decide (k.1 = p.data.toList)))
  in_ : ∀ (B : Option Addr) (n c : Nat) (ks : List PF) (p : ByteArray) (w : World), Tr w B n c ks → ks.length ≤ 400 → p.size ≤ 1000 → Calls Tryz.prog 104 #[.agg #[.slice B n c], .string p] w (RowLeft w (inK ks p.data.toList))
  same : ∀ (B : Option Addr) (n c : Nat) (ks : List PF) (B2 : Option Addr) (n2 c2 : Nat) (js : List PF) (w : World), Tr w B n c ks → Tr w B2 n2 c2 js → ks.length ≤ 400 → js.length ≤ 400 → Calls Tryz.prog 10 #[.agg #[.slice B n c], .agg #[.slice B2 n2 c2]] w fun e w' => e = .returned (.bool (decide (ks = js))) ∧ Below w.heap.size w w'
end Go.Proofs.YtknommnlkdlkdaaGreatDoor
namespace Go.Proofs.YtknommnlkdlkdaaGreatDoor
open Go.RowKit
set_option linter.unusedVariables false

/-- In order, each path once. -/
def Rise (ks : List PF) : Prop := ks.Pairwise fun x y => lessK x y = true
theorem lessK_asymm {x y : PF} (h : lessK x y = true) : lessK y x = false := by
  cases h2 : lessK y x with
  | false => rfl
  | true => exact absurd ⟨h, h2⟩ (lessP_asymm nameP x.1 y.1)
theorem lessK_trans {x y z : PF} (h : lessK x y = true) (h2 : lessK y z = true) : lessK x z = true := lessP_trans nameP h h2
theorem lessK_ne {x y : PF} (h : lessK x y = true) : x.1 ≠ y.1 := fun e => by
  unfold lessK at h
  rw [e, lessP_irrefl] at h
  cases h
theorem lessK_or {x y : PF} (h : x.1 ≠ y.1) : lessK x y = true ∨ lessK y x = true := by
  rcases lessP_total nameP x.1 y.1 with h1 | h1 | h1
  · exact .inl h1
  · exact .inr h1
  · exact absurd h1 h
theorem Rise.without {ks : List PF} (h : Rise ks) (p : List UInt8) : Rise (withoutK ks p) := List.Pairwise.sublist List.filter_sublist h
theorem without_not {ks : List PF} {p : List UInt8} {k : PF} (h : k ∈ withoutK ks p) : k.1 ≠ p ∧ k ∈ ks := by
  have := List.mem_filter.1 h
  exact ⟨by simpa using this.2, this.1⟩
/-- Where a file goes, told by its neighbours. -/
theorem place_at {x : PF} {out : List PF} {i : Nat} (hi : i ≤ out.length) (h1 : ∀ j (hj : j < out.length), j < i → lessK out[j] x = true) (h2 : ∀ j (hj : j < out.length), i ≤ j → lessK x out[j] = true) : placeK x out out.length = i := by
  have key : ∀ n, i ≤ n → n ≤ out.length → placeK x out n = i := by
    intro n
    induction n with
    | zero => intro h _; simp [placeK]; omega
    | succ n ih =>
      intro hin hn
      have hlt : n < out.length := by omega
      rw [placeK, List.getElem?_eq_getElem hlt]
      by_cases he : i = n + 1
      · have := lessK_asymm (h1 n hlt (by omega))
        simp [this, he]
      · have := h2 n hlt (by omega)
        simp [this, ih (by omega) (by omega)]
  exact key out.length hi (Nat.le_refl _)
theorem insK_at {x : PF} {out : List PF} {i : Nat} (hi : i ≤ out.length) (h1 : ∀ j (hj : j < out.length), j < i → lessK out[j] x = true) (h2 : ∀ j (hj : j < out.length), i ≤ j → lessK x out[j] = true) : insK out x = out.take i ++ [x] ++ out.drop i := by
  unfold insK
  rw [place_at hi h1 h2]
theorem foldl_rise : ∀ (l out : List PF), Rise (out ++ l) → l.foldl insK out = out ++ l
  | [], out, _ => by simp
  | x :: l, out, h => by
    have hx : ∀ g ∈ out, lessK g x = true := fun g hg => (List.pairwise_append.1 h).2.2 g hg x (by simp)
    have e : insK out x = out ++ [x] := by
      rw [insK_at (i := out.length) (Nat.le_refl _) (fun j hj _ => hx _ (List.getElem_mem _)) (fun j hj h => by omega), List.take_length, List.drop_length, List.append_nil]
    rw [List.foldl_cons, e, foldl_rise l (out ++ [x]) (by rw [List.append_assoc]; exact h), List.append_assoc]
    rfl
theorem sort_rise {l : List PF} (h : Rise l) : sortK l = l := foldl_rise l [] (by simpa using h)
theorem with_rise {ks : List PF} (h : Rise ks) (x : PF) : withK ks x = insK (withoutK ks x.1) x := by
  unfold withK
  have e : sortK (withoutK ks x.1 ++ [x]) = insK (sortK (withoutK ks x.1)) x := by
    unfold sortK
    rw [List.foldl_append]
    rfl
  rw [e, sort_rise (h.without _)]
/-- There is a place. -/
theorem place_is : ∀ {out : List PF} {x : PF}, Rise out → (∀ k ∈ out, k.1 ≠ x.1) → ∃ i, i ≤ out.length ∧ (∀ j (hj : j < out.length), j < i → lessK out[j] x = true) ∧ (∀ j (hj : j < out.length), i ≤ j → lessK x out[j] = true)
  | [], x, _, _ => ⟨0, Nat.le_refl _, fun j hj => by simp at hj, fun j hj => by simp at hj⟩
  | k :: l, x, h, hn => by
    obtain ⟨h1, h2⟩ := List.pairwise_cons.1 h
    rcases lessK_or (hn k (by simp)) with hk | hk
    · obtain ⟨i, hi, a, b⟩ := place_is (out := l) (x := x) h2 fun g hg => hn g (List.mem_cons_of_mem _ hg)
      refine ⟨i + 1, by simp; omega, fun j hj hji => ?_, fun j hj hji => ?_⟩
      · cases j with
        | zero => exact hk
        | succ j => exact a j (by simpa using hj) (by omega)
      · cases j with
        | zero => omega
        | succ j => exact b j (by simpa using hj) (by omega)
    · refine ⟨0, Nat.zero_le _, fun j hj h => by omega, fun j hj _ => ?_⟩
      cases j with
      | zero => exact hk
      | succ j => exact lessK_trans hk (h1 _ (List.getElem_mem _))
theorem insK_rise {out : List PF} {x : PF} (h : Rise out) (hn : ∀ k ∈ out, k.1 ≠ x.1) : Rise (insK out x) := by
  obtain ⟨i, hi, a, b⟩ := place_is h hn
  rw [insK_at hi a b]
  have h' : Rise (out.take i ++ out.drop i) := by rw [List.take_append_drop]; exact h
  obtain ⟨p1, p2, p3⟩ := List.pairwise_append.1 h'
  have ha : ∀ g ∈ out.take i, lessK g x = true := fun g hg => by
    obtain ⟨j, hj, rfl⟩ := List.getElem_of_mem hg
    rw [List.length_take] at hj
    rw [List.getElem_take]
    exact a j (by omega) (by omega)
  have hb : ∀ g ∈ out.drop i, lessK x g = true := fun g hg => by
    obtain ⟨j, hj, rfl⟩ := List.getElem_of_mem hg
    rw [List.length_drop] at hj
    rw [List.getElem_drop]
    exact b (i + j) (by omega) (by omega)
  refine List.pairwise_append.2 ⟨List.pairwise_append.2 ⟨p1, by simp, fun g hg y hy => ?_⟩, p2, fun g hg y hy => ?_⟩
  · rw [List.mem_singleton] at hy
    subst hy
    exact ha g hg
  · rcases List.mem_append.1 hg with hg | hg
    · exact p3 g hg y hy
    · rw [List.mem_singleton] at hg
      subst hg
      exact hb y hy
theorem Rise.with_ {ks : List PF} (h : Rise ks) (x : PF) : Rise (withK ks x) := by
  rw [with_rise h x]
  exact insK_rise (h.without _) fun k hk => (without_not hk).1
theorem insK_mem (out : List PF) (x f : PF) : f ∈ insK out x ↔ f ∈ out ∨ f = x := by
  have e : f ∈ out ↔ f ∈ out.take (placeK x out out.length) ∨ f ∈ out.drop (placeK x out out.length) := by
    rw [← List.mem_append, List.take_append_drop]
  rw [e]
  unfold insK
  simp only [List.mem_append, List.mem_singleton]
  constructor
  · rintro ((h | h) | h)
    · exact .inl (.inl h)
    · exact .inr h
    · exact .inl (.inr h)
  · rintro ((h | h) | h)
    · exact .inl (.inl h)
    · exact .inr h
    · exact .inl (.inr h)
theorem with_memK {ks : List PF} (h : Rise ks) {x f : PF} : f ∈ withK ks x ↔ (f ∈ ks ∧ f.1 ≠ x.1) ∨ f = x := by
  rw [with_rise h x, insK_mem]
  constructor
  · rintro (h | h)
    · exact .inl ⟨(without_not h).2, (without_not h).1⟩
    · exact .inr h
  · rintro (⟨h1, h2⟩ | h)
    · exact .inl (List.mem_filter.2 ⟨h1, by simpa using h2⟩)
    · exact .inr h
/-- What is found stands at one place alone. -/
theorem rise_once {ks : List PF} (h : Rise ks) {i j : Nat} (hi : i < ks.length) (hj : j < ks.length) (e : ks[i].1 = ks[j].1) : i = j := by
  rcases Nat.lt_trichotomy i j with k | k | k
  · exact absurd e (lessK_ne (List.pairwise_iff_getElem.1 h i j hi hj k))
  · exact k
  · exact absurd e.symm (lessK_ne (List.pairwise_iff_getElem.1 h j i hj hi k))
/-- A file in the place of an older one. -/
theorem with_over {ks : List PF} (h : Rise ks) {i : Nat} (hi : i < ks.length) {x : PF} (hx : ks[i].1 = x.1) : withK ks x = ks.take i ++ [x] ++ ks.drop (i + 1) := by
  have hw : withoutK ks x.1 = ks.take i ++ ks.drop (i + 1) := by
    unfold withoutK
    have e : ks = ks.take i ++ ks[i] :: ks.drop (i + 1) := by rw [← List.drop_eq_getElem_cons hi, List.take_append_drop]
    conv => lhs; rw [e]
    rw [List.filter_append, List.filter_cons, if_neg (by simp [hx])]
    rw [List.filter_eq_self.2, List.filter_eq_self.2]
    · intro k hk
      obtain ⟨j, hj, rfl⟩ := List.getElem_of_mem hk
      rw [List.length_drop] at hj
      rw [List.getElem_drop]
      have : ks[i + 1 + j].1 ≠ x.1 := fun e => by
        have := rise_once h (i := i + 1 + j) (j := i) (by omega) hi (by rw [e, hx])
        omega
      simpa using this
    · intro k hk
      obtain ⟨j, hj, rfl⟩ := List.getElem_of_mem hk
      rw [List.length_take] at hj
      rw [List.getElem_take]
      have : ks[j].1 ≠ x.1 := fun e => by
        have := rise_once h (i := j) (j := i) (by omega) hi (by rw [e, hx])
        omega
      simpa using this
  have hlx : ∀ y : PF, lessK y x = lessK y ks[i] := fun y => by unfold lessK; rw [hx]
  have hxl : ∀ y : PF, lessK x y = lessK ks[i] y := fun y => by unfold lessK; rw [hx]
  rw [with_rise h x, hw]
  have hl : (ks.take i).length = i := by rw [List.length_take]; omega
  rw [insK_at (i := i) (by rw [List.length_append, hl]; omega) (fun j hj hji => ?_) (fun j hj hji => ?_)]
  · congr 1
    · congr 1
      rw [List.take_left' hl]
    · rw [List.drop_left' hl]
  · rw [List.getElem_append_left (by omega), List.getElem_take, hlx]
    exact List.pairwise_iff_getElem.1 h j i (by omega) hi hji
  · rw [List.getElem_append_right (by omega), List.getElem_drop, hxl]
    exact List.pairwise_iff_getElem.1 h i _ hi _ (by omega)
end Go.Proofs.YtknommnlkdlkdaaGreatDoor
