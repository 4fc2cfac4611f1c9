
/- Words for memory: ids, rows of ids. -/
import Derived.Test.YthenlajknoddcaaDoorRec
import Derived.Test.YthenlajknoddcaaDoorIdPlain
namespace Go.Proofs.YthenlajknoddcaaDoor
open Go.RowKit
set_option linter.unusedVariables false

/-- An id as it lies: its patch, its number. -/
structure Im where
  p : ByteArray
  n : Int
deriving DecidableEq
def Im.key (x : Im) : Ik := (x.p.data.toList, x.n)
def Im.val (x : Im) : Value := .agg #[.string x.p, .int .i64 x.n]
/-- Its text and its number are what Go may hold. -/
def Im.Ok (x : Im) : Prop := x.p.size ≤ 9223372036854775807 ∧ -9223372036854775808 ≤ x.n ∧ x.n ≤ 9223372036854775807
theorem Im.key_inj {x y : Im} (h : x.key = y.key) : x = y := by
  obtain ⟨p, n⟩ := x
  obtain ⟨q, m⟩ := y
  simp only [Im.key, Prod.mk.injEq] at h
  obtain ⟨h1, rfl⟩ := h
  rw [bytes_inj h1]
theorem Im.key_iff {x y : Im} : x.key = y.key ↔ x.p = y.p ∧ x.n = y.n := ⟨fun h => by rw [Im.key_inj h]; exact ⟨rfl, rfl⟩, fun ⟨h1, h2⟩ => by unfold Im.key; rw [h1, h2]⟩
def ikeys (l : List Im) : List Ik := l.map Im.key
theorem ikeys_len (l : List Im) : (ikeys l).length = l.length := by simp [ikeys]
theorem ikeys_get (l : List Im) (j : Nat) (h : j < (ikeys l).length) : (ikeys l)[j] = (l[j]'(by rw [ikeys_len] at h; exact h)).key := by simp [ikeys]
theorem ikeys_inj {a b : List Im} (h : ikeys a = ikeys b) : a = b := List.map_inj_right (fun _ _ => Im.key_inj) |>.1 h
theorem mem_ikeys {x : Im} {l : List Im} : x.key ∈ ikeys l ↔ x ∈ l := by
  unfold ikeys
  rw [List.mem_map]
  exact ⟨fun ⟨y, hy, e⟩ => by rw [← Im.key_inj e]; exact hy, fun h => ⟨x, h, rfl⟩⟩
def imOf (k : Ik) : Im := ⟨toB k.1, k.2⟩
theorem imOf_key (k : Ik) : (imOf k).key = k := by simp [imOf, Im.key, of_toB]
theorem key_imOf (x : Im) : imOf x.key = x := Im.key_inj (imOf_key _)

/-- Ids as records of two cells. -/
def idR : Rk Im where
  ty := 23
  tys := 31
  k := 2
  bytes := 24
  zero := .agg #[.string ByteArray.empty, .int .i64 0]
  enc := fun x => [.string x.p, .int .i64 x.n]
  len := fun _ => rfl
  one := fun x u hu => by
    simp only [List.mem_cons, List.not_mem_nil, or_false] at hu
    rcases hu with rfl | rfl <;> rfl
  pos := by decide
  small := by decide
  zsz := rfl
  info := by kernel_rfl
  und := Tryd.underlying31
abbrev Ids (w : World) (B : Nat) (A : Option Addr) (l : List Im) : Prop := idR.Row w B A l
abbrev OwnId (w : World) (B : Nat) (v : Value) (l : List Im) : Prop := idR.Own w B v l
abbrev IdAt (w : World) (g : Nat) (x : Im) : Prop := idR.At w g x
theorem ids_get {w : World} {B : Nat} {A : Option Addr} {l : List Im} (h : Ids w B A l) {j : Nat} (hj : j < l.length) : ∃ b off, A = some ⟨b, off, none⟩ ∧ b < B ∧ w.cell? ⟨b, off + j * 2, none⟩ = some (.string l[j].p) ∧ w.cell? ⟨b, off + j * 2 + 1, none⟩ = some (.int .i64 l[j].n) := by
  obtain ⟨b, off, e, hlt, hc⟩ := h.get hj
  exact ⟨b, off, e, hlt, hc 0 _ rfl, hc 1 _ rfl⟩
theorem id_c0 {w : World} {g : Nat} {x : Im} (h : IdAt w g x) : w.cell? ⟨g, 0, none⟩ = some (.string x.p) := h.cell (r := 0) rfl
theorem id_c1 {w : World} {g : Nat} {x : Im} (h : IdAt w g x) : w.cell? ⟨g, 1, none⟩ = some (.int .i64 x.n) := h.cell (r := 1) rfl
theorem id_new (w : World) (p : ByteArray) (n : Int) : IdAt (w.alloc (.cells #[.string p, .int .i64 n] 23)) w.heap.size ⟨p, n⟩ := Rk.At.new_ w (⟨p, n⟩ : Im)
theorem id_box (w : World) (x : Im) : Below w.heap.size w (w.alloc (.cells #[.string x.p, .int .i64 x.n] 23)) ∧ IdAt (w.alloc (.cells #[.string x.p, .int .i64 x.n] 23)) w.heap.size x := ⟨(Below.refl _ _).alloc (Nat.le_refl _) _, id_new w x.p x.n⟩
theorem id_box2 (w : World) (x y : Im) : Below w.heap.size w ((w.alloc (.cells #[.string x.p, .int .i64 x.n] 23)).alloc (.cells #[.string y.p, .int .i64 y.n] 23)) ∧
    IdAt ((w.alloc (.cells #[.string x.p, .int .i64 x.n] 23)).alloc (.cells #[.string y.p, .int .i64 y.n] 23)) w.heap.size x ∧ IdAt ((w.alloc (.cells #[.string x.p, .int .i64 x.n] 23)).alloc (.cells #[.string y.p, .int .i64 y.n] 23)) (w.heap.size + 1) y := by
  obtain ⟨b1, h1⟩ := id_box w x
  obtain ⟨b2, h2⟩ := id_box (w.alloc (.cells #[.string x.p, .int .i64 x.n] 23)) y
  refine ⟨b1.trans (b2.mono b1.size), h1.on b2, ?_⟩
  have e : (w.alloc (.cells #[.string x.p, .int .i64 x.n] 23)).heap.size = w.heap.size + 1 := by simp
  rw [e] at h2
  exact h2
end Go.Proofs.YthenlajknoddcaaDoor
