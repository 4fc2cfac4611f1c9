/- Lines in a block of strings. A step whose lines lie in blocks of strings; steps handed back. Steps in parameters' and results' cells. Texts held against each other. The statements' Light of layer 3 (other layers call it too). The reference's May and Same of layer 4; the statements' Light of hunks. The reference's Same of layer 4; the statements' Light of hunks. Package lines' Same; package diff's copied and hunk. The reference's At of layer 3. The reference's Apply of layer 4. Rows of hunks that a call makes: append. -/
import Derived.Test.YtempamboacbgiaaDoorCk01
import Derived.Test.YtempamboacbgiaaDoorCk03
import Derived.Laws.ResultCell
import Derived.Laws.Rows
import Derived.Test.YtempamboacbgiaaDoorCk02
import Derived.WalkKit
import Derived.Handy
import Derived.Lib.Hide
import Derived.Test.YtempamboacbgiaaDoorShelf
import Derived.BigQuiet
import Derived.Deep.QuietTactic
import Derived.Deep.AppendLies
namespace Go.Proofs.YtempamboacbgiaaDoor
open Go.RowKit
set_option linter.unusedVariables false

/-- Lines lie in a block of strings. -/
def StrBlk (w : World) (A : Option Addr) (ls : List (List UInt8)) : Prop := 0 < ls.length → ∃ b off cur fz, A = some ⟨b, off, none⟩ ∧ w.heap[b]? = some (.cells cur 9 fz)
theorem OwnS.blk {w : World} {B n c : Nat} {A : Option Addr} {ls : List (List UInt8)} (o : OwnS w B (.slice A n c) ls) : StrBlk w A ls := fun hp => by
  rcases o.2 with ⟨e, h0⟩ | ⟨g, cap, cur, e, hb, hg, _⟩
  · omega
  · simp only [Value.slice.injEq] at e
    exact ⟨g, 0, cur, _, e.1, hg⟩
theorem StrBlk.on {w w' : World} {A : Option Addr} {ls : List (List UInt8)} (s : StrBlk w A ls) (hb : Below w.heap.size w w') : StrBlk w' A ls := fun hp => by
  obtain ⟨b, off, cur, fz, e, h⟩ := s hp
  exact ⟨b, off, cur, fz, e, (hb.block b (Array.getElem?_eq_some_iff.1 h).1).trans h⟩
theorem StrBlk.grown {w w' : World} {A : Option Addr} {ls : List (List UInt8)} (s : StrBlk w A ls) {g : Nat} {cur2 : Array Value} {t : TypeId} {fz2 : Nat × Nat} (h2 : w.heap[g]? = some (.cells cur2 t fz2)) (ht : t ≠ 9) (hg : w.grownBy w' (some g)) : StrBlk w' A ls := fun hp => by
  obtain ⟨b, off, cur, fz, e, h⟩ := s hp
  have hne : b ≠ g := fun e2 => by
    rw [e2, h2] at h
    simp only [Option.some.injEq, Obj.cells.injEq] at h
    exact ht h.2.1
  exact ⟨b, off, cur, fz, e, (hg.block b (Array.getElem?_eq_some_iff.1 h).1 (by simpa using hne)).trans h⟩
theorem StrBlk.strs {w w' : World} {A : Option Addr} {ls : List (List UInt8)} (s : StrBlk w A ls) (k : Strs w w.heap.size A (toBs ls)) {g : Nat} {cur2 : Array Value} {t : TypeId} {fz2 : Nat × Nat} (h2 : w.heap[g]? = some (.cells cur2 t fz2)) (ht : t ≠ 9) (hg : w.grownBy w' (some g)) : Strs w' w'.heap.size A (toBs ls) := fun hp => by
  obtain ⟨b, off, e, hlt, hc⟩ := k hp
  obtain ⟨b2, off2, cur, fz, e2, h⟩ := s (by rw [toBs_len] at hp; exact hp)
  rw [e] at e2
  simp only [Option.some.injEq, Addr.mk.injEq] at e2
  obtain ⟨rfl, _, _⟩ := e2
  have hne : b ≠ g := fun e2 => by
    rw [e2, h2] at h
    simp only [Option.some.injEq, Obj.cells.injEq] at h
    exact ht h.2.1
  refine ⟨b, off, e, Nat.lt_of_lt_of_le hlt hg.size, fun j hj => ?_⟩
  exact World.grownBy.cell hg (hc j hj) (by simpa using hne)
end Go.Proofs.YtempamboacbgiaaDoor
namespace Go.Proofs.YtempamboacbgiaaDoor
open Go.RowKit
set_option linter.unusedVariables false

/-- A step whose lines lie in blocks of strings. -/
def Pm.Sep (x : Pm) (w : World) : Prop := x.Ok w w.heap.size ∧ StrBlk w x.a1 x.old ∧ StrBlk w x.a2 x.new
theorem Pm.Sep.on {x : Pm} {w w' : World} (h : x.Sep w) (hb : Below w.heap.size w w') : x.Sep w' := ⟨h.1.on hb, h.2.1.on hb, h.2.2.on hb⟩
theorem Pm.Sep.grown {x : Pm} {w w' : World} (h : x.Sep w) {g : Nat} {cur2 : Array Value} {t : TypeId} {fz2 : Nat × Nat} (h2 : w.heap[g]? = some (.cells cur2 t fz2)) (ht : t ≠ 9) (hg : w.grownBy w' (some g)) : x.Sep w' :=
  ⟨⟨⟨h.2.1.strs h.1.h.old h2 ht hg, h.2.2.strs h.1.h.new h2 ht hg, h.1.h.r1, h.1.h.r2, h.1.h.lo, h.1.h.hi, h.1.h.n1, h.1.h.n2⟩, h.1.p, h.1.q, h.1.lo, h.1.hi⟩, h.2.1.grown h2 ht hg, h.2.2.grown h2 ht hg⟩
theorem cell_set6 {w : World} {b g off : Nat} {v v0 v1 v2 v3 v4 v5 : Value} (h : w.cell? ⟨b, off, none⟩ = some v) (hne : b ≠ g) : ((((((w.setCell ⟨g, 0, none⟩ v0).setCell ⟨g, 1, none⟩ v1).setCell ⟨g, 2, none⟩ v2).setCell ⟨g, 3, none⟩ v3).setCell ⟨g, 4, none⟩ v4).setCell ⟨g, 5, none⟩ v5).cell? ⟨b, off, none⟩ = some v :=
  World.grownBy.cell (grown_on (grown_on (grown_on (grown_on (grown_on (grown_cell _ _ _ _) (grown_cell _ _ _ _)) (grown_cell _ _ _ _)) (grown_cell _ _ _ _)) (grown_cell _ _ _ _)) (grown_cell _ _ _ _)) h (by simpa using hne)
/-- A step comes back. -/
def PrimLeft (w : World) (k : Pk) (e : Ending) (w' : World) : Prop :=
  ∃ y : Pm, e = .returned (.agg #[.int .i64 y.kind, .string y.p, .string y.dst, .int .i64 y.at_, .slice y.a1 y.old.length y.c1, .slice y.a2 y.new.length y.c2]) ∧ Hid (y.Sep w' ∧ y.key = k) ∧ Below w.heap.size w w'
theorem StrBlk.nil_ (w : World) (A : Option Addr) : StrBlk w A [] := fun h => absurd h (by simp)
/-- A step without lines. -/
theorem sep_bare (w : World) (kind : Int) (p q : ByteArray) (hp : p.size ≤ 9223372036854775807) (hq : q.size ≤ 9223372036854775807) (h1 : 1 ≤ kind) (h2 : kind ≤ 6) : Pm.Sep ⟨kind, p, q, 0, none, 0, [], none, 0, []⟩ w :=
  ⟨⟨⟨Strs.none_, Strs.none_, ⟨fun _ => rfl, Nat.le_refl _⟩, ⟨fun _ => rfl, Nat.le_refl _⟩, by show (-9223372036854775808 : Int) ≤ 0; decide, by show (0 : Int) ≤ 9223372036854775807; decide, by show (0 : Nat) ≤ 9223372036854775807; decide, by show (0 : Nat) ≤ 9223372036854775807; decide⟩, hp, hq, by show _ ≤ kind; omega, by show kind ≤ _; omega⟩, StrBlk.nil_ _ _, StrBlk.nil_ _ _⟩
/-- A step written into the result, handed back. -/
theorem prim_set {w w2 : World} {G : Nat} {y0 y : Pm} {k : Pk} (hb : Below w.heap.size w w2) (hG : w.heap.size ≤ G) (hP : PrimAt w2 G y0) (hy : y.Sep w2) (hk : y.key = k) : PrimLeft w k (.returned (.agg #[.int .i64 y.kind, .string y.p, .string y.dst, .int .i64 y.at_, .slice y.a1 y.old.length y.c1, .slice y.a2 y.new.length y.c2])) (setPrim w2 G y) :=
  ⟨y, rfl, ⟨hy.grown hP (by decide) (setPrim_grown w2 G y), hk⟩, below_prim y hb hG hb.size⟩
theorem sep_zero (w : World) : Pm.Sep ⟨0, ⟨#[]⟩, ⟨#[]⟩, 0, none, 0, [], none, 0, []⟩ w :=
  ⟨⟨⟨Strs.none_, Strs.none_, ⟨fun _ => rfl, Nat.le_refl _⟩, ⟨fun _ => rfl, Nat.le_refl _⟩, by show (-9223372036854775808 : Int) ≤ 0; decide, by show (0 : Int) ≤ 9223372036854775807; decide, by show (0 : Nat) ≤ 9223372036854775807; decide, by show (0 : Nat) ≤ 9223372036854775807; decide⟩, by show (0 : Nat) ≤ 9223372036854775807; decide, by show (0 : Nat) ≤ 9223372036854775807; decide, by show (-9223372036854775808 : Int) ≤ 0; decide, by show (0 : Int) ≤ 9223372036854775807; decide⟩, StrBlk.nil_ _ _, StrBlk.nil_ _ _⟩
/-- Steps in a block of their own. -/
theorem ps_new {w : World} {ps : List Pm} (hok : ∀ x ∈ ps, x.Ok w w.heap.size) : Ps (w.alloc (.cells (pcells ps).toArray 24)) (w.heap.size + 1) (some ⟨w.heap.size, 0, none⟩) ps := by
  have hb : Below w.heap.size w (w.alloc (.cells (pcells ps).toArray 24)) := (Below.refl _ _).alloc (Nat.le_refl _) _
  have hn := heap_alloc_new w (.cells (pcells ps).toArray 24)
  have hc : ∀ i v, (pcells ps)[i]? = some v → (w.alloc (.cells (pcells ps).toArray 24)).cell? ⟨w.heap.size, i, none⟩ = some v := fun i v h => by
    simp only [World.cell?, hn]
    simpa using h
  refine ⟨fun hp => ⟨w.heap.size, 0, rfl, Nat.lt_succ_self _, fun j hj => ?_⟩, fun x hx => ((hok x hx).below hb).more (Nat.le_succ _)⟩
  obtain ⟨c0, c1, c2, c3, c4, c5⟩ := pcells_get ps j hj
  simp only [Nat.zero_add]
  exact ⟨hc _ _ c0, hc _ _ c1, hc _ _ c2, hc _ _ c3, hc _ _ c4, hc _ _ c5⟩
end Go.Proofs.YtempamboacbgiaaDoor
namespace Go.Proofs.YtempamboacbgiaaDoor
open Go.RowKit
set_option linter.unusedVariables false

theorem pm_at {w : World} {g : Nat} {kind : Int} {p q : ByteArray} {at_ : Int} {a1 : Option Addr} {c1 : Nat} {old : List (List UInt8)} {a2 : Option Addr} {c2 : Nat} {new : List (List UInt8)} {A B : Option Addr} {m c n d : Nat} (k : PrimAt w g ⟨kind, p, q, at_, a1, c1, old, a2, c2, new⟩) (h1 : m = old.length) (h2 : n = new.length) :
    PrimAt ((w.setCell ⟨g, 4, none⟩ (.slice A m c)).setCell ⟨g, 5, none⟩ (.slice B n d)) g ⟨kind, p, q, at_, A, c, old, B, d, new⟩ := by
  subst h1; subst h2
  unfold PrimAt at k ⊢
  simp [World.setCell, Array.getElem?_modify, k, Pm.cells]
theorem grown45 (w : World) (g : Nat) (u v : Value) : w.grownBy ((w.setCell ⟨g, 4, none⟩ u).setCell ⟨g, 5, none⟩ v) (some g) := grown_on (grown_cell _ _ _ _) (grown_cell _ _ _ _)
/-- The zero step in a result's cells, behind a step in a parameter's. -/
theorem boxes (w : World) (x : Pm) : Below w.heap.size w ((w.alloc (.cells x.cells.toArray 24)).alloc (.cells (Pm.cells ⟨0, ⟨#[]⟩, ⟨#[]⟩, 0, none, 0, [], none, 0, []⟩).toArray 24)) ∧
    PrimAt ((w.alloc (.cells x.cells.toArray 24)).alloc (.cells (Pm.cells ⟨0, ⟨#[]⟩, ⟨#[]⟩, 0, none, 0, [], none, 0, []⟩).toArray 24)) w.heap.size x ∧
    PrimAt ((w.alloc (.cells x.cells.toArray 24)).alloc (.cells (Pm.cells ⟨0, ⟨#[]⟩, ⟨#[]⟩, 0, none, 0, [], none, 0, []⟩).toArray 24)) (w.heap.size + 1) ⟨0, ⟨#[]⟩, ⟨#[]⟩, 0, none, 0, [], none, 0, []⟩ := by
  have hb0 : Below w.heap.size w (w.alloc (.cells x.cells.toArray 24)) := (Below.refl _ _).alloc (Nat.le_refl _) _
  have hb1 : Below (w.alloc (.cells x.cells.toArray 24)).heap.size (w.alloc (.cells x.cells.toArray 24)) ((w.alloc (.cells x.cells.toArray 24)).alloc (.cells (Pm.cells ⟨0, ⟨#[]⟩, ⟨#[]⟩, 0, none, 0, [], none, 0, []⟩).toArray 24)) := (Below.refl _ _).alloc (Nat.le_refl _) _
  refine ⟨hb0.trans (hb1.mono hb0.size), (PrimAt.new_ w x).on hb1, ?_⟩
  have h := PrimAt.new_ (w.alloc (.cells x.cells.toArray 24)) ⟨0, ⟨#[]⟩, ⟨#[]⟩, 0, none, 0, [], none, 0, []⟩
  rw [World.size_alloc] at h
  exact h
/-- Both steps in parameters' cells. -/
theorem box2 (w : World) (x y : Pm) : Below w.heap.size w ((w.alloc (.cells x.cells.toArray 24)).alloc (.cells y.cells.toArray 24)) ∧
    PrimAt ((w.alloc (.cells x.cells.toArray 24)).alloc (.cells y.cells.toArray 24)) w.heap.size x ∧ PrimAt ((w.alloc (.cells x.cells.toArray 24)).alloc (.cells y.cells.toArray 24)) (w.heap.size + 1) y := by
  have hb0 : Below w.heap.size w (w.alloc (.cells x.cells.toArray 24)) := (Below.refl _ _).alloc (Nat.le_refl _) _
  have hb1 : Below (w.alloc (.cells x.cells.toArray 24)).heap.size (w.alloc (.cells x.cells.toArray 24)) ((w.alloc (.cells x.cells.toArray 24)).alloc (.cells y.cells.toArray 24)) := (Below.refl _ _).alloc (Nat.le_refl _) _
  refine ⟨hb0.trans (hb1.mono hb0.size), (PrimAt.new_ w x).on hb1, ?_⟩
  have h := PrimAt.new_ (w.alloc (.cells x.cells.toArray 24)) y
  rw [World.size_alloc] at h
  exact h
theorem six_six {w : World} {g h : Nat} {x y : Pm} (k : PrimAt w g x) (l : PrimAt w h y) : w.cell? ⟨g, 0, none⟩ = some (.int .i64 x.kind) ∧ w.cell? ⟨g, 1, none⟩ = some (.string x.p) ∧ w.cell? ⟨g, 2, none⟩ = some (.string x.dst) ∧ w.cell? ⟨g, 3, none⟩ = some (.int .i64 x.at_) ∧ w.cell? ⟨g, 4, none⟩ = some (.slice x.a1 x.old.length x.c1) ∧ w.cell? ⟨g, 5, none⟩ = some (.slice x.a2 x.new.length x.c2) ∧
    w.cell? ⟨h, 0, none⟩ = some (.int .i64 y.kind) ∧ w.cell? ⟨h, 1, none⟩ = some (.string y.p) ∧ w.cell? ⟨h, 2, none⟩ = some (.string y.dst) ∧ w.cell? ⟨h, 3, none⟩ = some (.int .i64 y.at_) ∧ w.cell? ⟨h, 4, none⟩ = some (.slice y.a1 y.old.length y.c1) ∧ w.cell? ⟨h, 5, none⟩ = some (.slice y.a2 y.new.length y.c2) :=
  ⟨k.c0, k.c1, k.c2, k.c3, k.c4, k.c5, l.c0, l.c1, l.c2, l.c3, l.c4, l.c5⟩
theorem prim_set6 {w : World} {g h : Nat} {x : Pm} {v0 v1 v2 v3 v4 v5 : Value} (k : PrimAt w g x) (hne : h ≠ g) : PrimAt ((((((w.setCell ⟨h, 0, none⟩ v0).setCell ⟨h, 1, none⟩ v1).setCell ⟨h, 2, none⟩ v2).setCell ⟨h, 3, none⟩ v3).setCell ⟨h, 4, none⟩ v4).setCell ⟨h, 5, none⟩ v5) g x :=
  k.grown (grown_on (grown_on (grown_on (grown_on (grown_on (grown_cell _ _ _ _) (grown_cell _ _ _ _)) (grown_cell _ _ _ _)) (grown_cell _ _ _ _)) (grown_cell _ _ _ _)) (grown_cell _ _ _ _)) (by simpa using hne)
end Go.Proofs.YtempamboacbgiaaDoor
namespace Go.Proofs.YtempamboacbgiaaDoor
open Go.RowKit
set_option linter.unusedVariables false

theorem str_beq (s t : ByteArray) : (s.toList == t.toList) = decide (s = t) := by
  rw [toList_eq, toList_eq]
  by_cases h : s = t
  · subst h; simp
  · rw [decide_eq_false h, beq_eq_false_iff_ne]
    exact fun e => h (bytes_inj e)
theorem str_ne {s t : ByteArray} (h : s ≠ t) : (s.toList == t.toList) = false := by
  rw [beq_eq_false_iff_ne]
  intro e
  rw [toList_eq, toList_eq] at e
  exact h (bytes_inj e)
theorem str_ne_empty {s : ByteArray} (h : s ≠ ⟨#[]⟩) : (s.toList == []) = false := by
  rw [beq_eq_false_iff_ne]
  intro e
  rw [toList_eq] at e
  exact h (bytes_inj e)
theorem toB_size (l : List UInt8) : (toB l).size = l.length := by simp [toB, ByteArray.size]
end Go.Proofs.YtempamboacbgiaaDoor
namespace Go.Proofs.YtempamboacbgiaaDoor
open Go.RowKit
set_option linter.unusedVariables false

/-- Texts that are not far too many. -/
def light3B (ss : List ByteArray) : Bool := ss.all (fun s => decide (s.size ≤ 300)) && decide (ss.length ≤ 60)
theorem light3B_no {ss : List ByteArray} {k : Nat} (hk : k < ss.length) (h : 300 < ss[k].size) : light3B ss = false := by
  have : ¬ ss.all (fun s => decide (s.size ≤ 300)) = true := by
    rw [List.all_eq_true]
    intro ha
    have := ha ss[k] (List.getElem_mem _)
    simp at this
    omega
  unfold light3B
  rw [Bool.not_eq_true] at this
  rw [this]; simp
theorem light3B_yes {ss : List ByteArray} (h : ∀ j (hj : j < ss.length), ss[j].size ≤ 300) : light3B ss = decide (ss.length ≤ 60) := by
  unfold light3B
  have : ss.all (fun s => decide (s.size ≤ 300)) = true := by
    rw [List.all_eq_true]
    intro s hs
    obtain ⟨j, hj, rfl⟩ := List.getElem_of_mem hs
    simpa using h j hj
  rw [this]; simp
theorem light3B_len {ss : List ByteArray} (h : light3B ss = true) : ss.length ≤ 60 := by
  unfold light3B at h
  simp at h
  exact h.2

set_option maxRecDepth 100000 in
theorem light3_any (A : Option Addr) (ss : List ByteArray) (cap : Nat) (w : World) (hs : Strs w w.heap.size A ss) (hn : ss.length ≤ 9223372036854775807) :
    Calls Tryd.prog 31 #[.slice A ss.length cap] w fun e w' => e = .returned (.bool (light3B ss)) ∧ w = w' := by
  go_enter Tryd.func31, Tryd.ntmps31
  go_wp2
  go_loop [3] (fun i => ∃ k : Nat, k ≤ ss.length ∧ i = .int .i64 (k : Int) ∧ Hid (∀ j (hj : j < ss.length), j < k → ss[j].size ≤ 300)) (fun i => ss.length - (intOf i).toNat)
  case atStart => exact ⟨0, Nat.zero_le _, rfl, fun j _ h => absurd h (by omega)⟩
  case round =>
    obtain ⟨k, hk, rfl, hall⟩ := hrel
    by_cases hlt : k < ss.length
    · obtain ⟨g, off, rfl, hg, hc⟩ := hs.at_ hlt
      have hno := Lib.hid (light3B_no hlt)
      have hyes : Hid (((ss[k].size : Int) ≤ 300) → ∀ j (hj : j < ss.length), j < k + 1 → ss[j].size ≤ 300) := by
        intro h j hj hjk
        by_cases he : j = k
        · subst he; omega
        · exact hall.out j hj (by omega)
      generalize ss[k] = s at *
      clear hs hall
      by_cases h3 : 300 < s.size
      · have hno2 := Lib.hid (hno.out (by omega))
        clear hno hyes
        go_wp2
        go_ret
        rw [hno2.out]
        exact ⟨rfl, rfl⟩
      · have hyes2 := Lib.hid (hyes.out (by omega))
        clear hno hyes
        go_wp2
        go_round
        case rel => exact ⟨k + 1, by omega, by go_num, hyes2⟩
        case measure => simp [intOf]; omega
    · have hk2 : k = ss.length := by omega
      subst hk2
      have hy := Lib.hid (light3B_yes (fun j hj => hall.out j hj hj))
      clear hall
      go_wp2
      go_ret
      rw [hy.out]
      exact ⟨by simp; omega, rfl⟩
end Go.Proofs.YtempamboacbgiaaDoor
namespace Go.Proofs.YtempamboacbgiaaDoor
open Go.RowKit
set_option linter.unusedVariables false

end Go.Proofs.YtempamboacbgiaaDoor
namespace Go.Proofs.YtempamboacbgiaaDoor
open Go.RowKit
set_option linter.unusedVariables false

/-- What a hunk says. -/
def Hm.key (h : Hm) : Int × List (List UInt8) × List (List UInt8) := (h.at_, h.old, h.new)
/-- Lists of lines that are not far too long. -/
def Small (hs : List Hm) : Prop := hs.length ≤ 1000000 ∧ ∀ h ∈ hs, h.old.length ≤ 1000000 ∧ h.new.length ≤ 1000000
end Go.Proofs.YtempamboacbgiaaDoor
namespace Go.Proofs.YtempamboacbgiaaDoor
open Go.RowKit
set_option linter.unusedVariables false

theorem sequal_q (A A2 : Option Addr) (ss tt : List ByteArray) (cap cap2 : Nat) (w : World) (hs : Strs w w.heap.size A ss) (ht : Strs w w.heap.size A2 tt)
    (hn : ss.length ≤ 140737488351232) (hn2 : tt.length ≤ 140737488351232) :
    Calls Tryd.prog 20 #[.slice A ss.length cap, .slice A2 tt.length cap2] w fun e w' => e = .returned (.bool (decide (ss = tt))) ∧ ∃ q, w' = w.drewN q := by
  by_cases hl : ss.length = tt.length
  · by_cases h0 : ss.length = 0
    · have e1 : ss = [] := List.length_eq_zero_iff.1 h0
      have e2 : tt = [] := List.length_eq_zero_iff.1 (by omega)
      subst e1 e2
      exact (Tryd.slices_Equal_string_empty A A2 cap 0 cap2 w (by decide)).mono fun e w' ⟨h1, h2⟩ => ⟨h1, 0, h2⟩
    · obtain ⟨b, off, rfl, _, h1⟩ := hs (by omega)
      obtain ⟨b2, off2, rfl, _, h2⟩ := ht (by omega)
      have h := Tryd.slices_Equal_string b off ss.length cap b2 off2 tt.length cap2 ss tt w (Nat.le_refl _) (Nat.le_refl _) (by omega) (by omega) (fun j hj => by rw [h1 j hj]; simp [List.getD, hj]) (fun j hj => by rw [h2 j hj]; simp [List.getD, hj])
      rwa [List.take_length, List.take_length] at h
  · have hd : decide (ss = tt) = false := by
      rw [decide_eq_false_iff_not]
      exact fun e => hl (by rw [e])
    rw [hd]
    exact (Tryd.slices_Equal_string_lens A A2 ss.length cap tt.length cap2 w hl).mono fun e w' ⟨h1, h2⟩ => ⟨h1, 0, h2⟩
theorem lsame_q (A A2 : Option Addr) (la lc : List (List UInt8)) (cap cap2 : Nat) (w : World) (d : Bool) (hd : decide (la = lc) = d) (hs : Strs w w.heap.size A (toBs la)) (ht : Strs w w.heap.size A2 (toBs lc)) (hn : la.length ≤ 1000000) (hn2 : lc.length ≤ 1000000) :
    Calls Tryd.prog 45 #[.slice A la.length cap, .slice A2 lc.length cap2] w fun e w' => e = .returned (.bool d) ∧ ∃ q, w' = w.drewN q := by
  have h := sequal_q A A2 (toBs la) (toBs lc) cap cap2 w hs ht (by rw [toBs_len]; omega) (by rw [toBs_len]; omega)
  rw [toBs_len, toBs_len, show decide (toBs la = toBs lc) = d from by
    rw [← hd]
    congr 1
    refine propext ⟨fun h => ?_, fun h => by rw [h]⟩
    have := congrArg lists h
    rwa [lists_toBs, lists_toBs] at this] at h
  have HH := Lib.hid h
  clear h hs ht hd
  go_enter Tryd.func45, Tryd.ntmps45
  go_wp2_with fail
  refine HH.out.mono ?_
  rintro e w' ⟨rfl, q, rfl⟩
  go_wp2
  go_ret
  exact ⟨rfl, q, rfl⟩
theorem lsame_qq (A A2 : Option Addr) (la lc : List (List UInt8)) (cap cap2 : Nat) (w : World) (d : Bool) (hd : decide (la = lc) = d) (hs : Strs w w.heap.size A (toBs la)) (ht : Strs w w.heap.size A2 (toBs lc)) (hn : la.length ≤ 1000000) (hn2 : lc.length ≤ 1000000) (n : Nat) :
    Calls Tryd.prog 45 #[.slice A la.length cap, .slice A2 lc.length cap2] (w.drewN n) fun e w' => e = .returned (.bool d) ∧ ∃ m, w' = w.drewN m :=
  Calls.quiet_of (lsame_q A A2 la lc cap cap2 (w.drewN n) d hd hs ht hn hn2)

end Go.Proofs.YtempamboacbgiaaDoor
namespace Go.Proofs.YtempamboacbgiaaDoor
open Go.RowKit
set_option linter.unusedVariables false

end Go.Proofs.YtempamboacbgiaaDoor
namespace Go.Proofs.YtempamboacbgiaaDoor
open Go.RowKit
set_option linter.unusedVariables false

end Go.Proofs.YtempamboacbgiaaDoor
namespace Go.Proofs.YtempamboacbgiaaDoor
open Go.RowKit
set_option linter.unusedVariables false

def hcells (hs : List Hm) : List Value := hs.flatMap Hm.cells
/-- A slice of hunks that the call made. -/
def OwnH (w : World) (B : Nat) (v : Value) (hs : List Hm) : Prop := w.ownsRow B 44 3 v hs.length (hcells hs)
theorem OwnH.nil (w : World) (B : Nat) : OwnH w B (.slice none 0 0) [] := w.ownsRow_nil B 44 3
theorem OwnH.ne_strs {w : World} {B B2 : Nat} {v u : Value} {hs : List Hm} {ls : List (List UInt8)} (h : OwnH w B v hs) (g : OwnS w B2 u ls) : ∀ k, u.ownBlock = some k → v.ownBlock ≠ some k := by
  intro k hk hv
  rcases h.2 with ⟨rfl, _⟩ | ⟨g1, c1, cur1, rfl, _, hg1, _⟩
  · simp [Value.ownBlock] at hv
  · rcases g.2 with ⟨rfl, _⟩ | ⟨g2, c2, cur2, rfl, _, hg2, _⟩
    · simp [Value.ownBlock] at hk
    · simp only [Value.ownBlock, Option.some.injEq] at hk hv
      subst hk hv
      rw [hg1] at hg2
      simp only [Option.some.injEq, Obj.cells.injEq] at hg2
      exact absurd hg2.2.1 (by decide)
theorem HunkAt.ne_strs {w : World} {g B : Nat} {h : Hm} {v : Value} {ls : List (List UInt8)} (k : HunkAt w g h) (o : OwnS w B v ls) : v.ownBlock ≠ some g := by
  intro hv
  rcases o.2 with ⟨rfl, _⟩ | ⟨g2, c2, cur2, rfl, _, hg2, _⟩
  · simp [Value.ownBlock] at hv
  · simp only [Value.ownBlock, Option.some.injEq] at hv
    subst hv
    rw [show w.heap[g2]? = _ from k] at hg2
    simp only [Option.some.injEq, Obj.cells.injEq] at hg2
    exact absurd hg2.2.1 (by decide)
end Go.Proofs.YtempamboacbgiaaDoor
