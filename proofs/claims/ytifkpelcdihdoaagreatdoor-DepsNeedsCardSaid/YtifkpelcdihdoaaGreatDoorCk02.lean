/- Names of what patches make, plainly: their order, sets of them. Words for memory: ids, rows of ids. Rows held while blocks are made. Rows of records that a call made, in a block of their own, written over; a variable of a record handed back. Texts held against each other. Ids held against each other as structs. name.Right, and the reference's Right. The reference's Digits, Right, Text of ids. Texts of ids, plainly: each is one id's alone. Plain facts on the bytes of numbers, texts and lists (layer 1): lists and numbers alone, nothing of the program. -/
import Derived.Laws.Rows
import Derived.Laws.ResultCell
import Derived.Laws.StructEq
import Derived.Handy
import Derived.Test.YtifkpelcdihdoaaGreatDoorShelf
import Derived.BigQuiet
import Derived.Deep.QuietTactic
import Derived.Test.YtifkpelcdihdoaaGreatDoorCk01
namespace Go.Proofs.YtifkpelcdihdoaaGreatDoor
set_option linter.unusedVariables false

/-- An id: the patch's name, the how manieth. -/
abbrev Ik := List UInt8 × Int
def ltI (x y : Ik) : Prop := x.1 < y.1 ∨ (x.1 = y.1 ∧ x.2 < y.2)
instance (x y : Ik) : Decidable (ltI x y) := by unfold ltI; exact inferInstance
theorem i_irrefl (x : Ik) : ¬ ltI x x := by
  rintro (h | ⟨_, h⟩)
  · exact t_irrefl _ h
  · omega
theorem i_trans {x y z : Ik} (h : ltI x y) (h2 : ltI y z) : ltI x z := by
  rcases h with h | ⟨e, h⟩ <;> rcases h2 with h2 | ⟨e2, h2⟩
  · exact .inl (t_trans h h2)
  · exact .inl (e2 ▸ h)
  · exact .inl (e ▸ h2)
  · exact .inr ⟨e.trans e2, by omega⟩
theorem i_tri {x y : Ik} (h : ¬ ltI x y) (h2 : x ≠ y) : ltI y x := by
  by_cases e : x.1 = y.1
  · refine .inr ⟨e.symm, ?_⟩
    have h3 : ¬ x.2 < y.2 := fun h4 => h (.inr ⟨e, h4⟩)
    have h4 : x.2 ≠ y.2 := fun h5 => h2 (Prod.ext e h5)
    omega
  · exact .inl (t_tri (fun h3 => h (.inl h3)) e)
/-- An id put into a set; ids as a set. -/
def insI (x : Ik) : List Ik → List Ik
  | [] => [x]
  | y :: r => if ltI y x then y :: insI x r else if y = x then y :: r else x :: y :: r
def setI (l : List Ik) : List Ik := l.foldl (fun a x => insI x a) []
theorem mem_insI (z x : Ik) : ∀ l, z ∈ insI x l ↔ z = x ∨ z ∈ l
  | [] => by simp [insI]
  | y :: r => by
    unfold insI
    have ih := mem_insI z x r
    split
    · simp only [List.mem_cons, ih]
      constructor
      · rintro (h | h | h) <;> simp [h]
      · rintro (h | h | h) <;> simp [h]
    · split
      · rename_i h; subst h; simp
      · simp
def RiseI (l : List Ik) : Prop := l.Pairwise ltI
theorem rise_insI (x : Ik) : ∀ l, RiseI l → RiseI (insI x l)
  | [], _ => by simp [insI, RiseI]
  | y :: r, h => by
    unfold RiseI at h
    obtain ⟨h1, h2⟩ := List.pairwise_cons.1 h
    unfold insI
    split
    · rename_i hlt
      refine List.pairwise_cons.2 ⟨fun z hz => ?_, rise_insI x r h2⟩
      rcases (mem_insI z x r).1 hz with rfl | hz
      · exact hlt
      · exact h1 z hz
    · split
      · exact h
      · rename_i hn hne
        have hxy : ltI x y := i_tri hn hne
        refine List.pairwise_cons.2 ⟨fun z hz => ?_, h⟩
        rcases List.mem_cons.1 hz with rfl | hz
        · exact hxy
        · exact i_trans hxy (h1 z hz)
theorem setI_snoc (l : List Ik) (x : Ik) : setI (l ++ [x]) = insI x (setI l) := by simp [setI]
theorem mem_setI (z : Ik) (l : List Ik) : z ∈ setI l ↔ z ∈ l := by
  suffices h : ∀ (l a : List Ik), z ∈ l.foldl (fun a x => insI x a) a ↔ z ∈ l ∨ z ∈ a by simpa [setI] using h l []
  intro l
  induction l with
  | nil => simp
  | cons x r ih =>
    intro a
    simp only [List.foldl_cons, ih, mem_insI, List.mem_cons]
    constructor
    · rintro (h | h | h) <;> simp [h]
    · rintro ((h | h) | h) <;> simp [h]
theorem rise_setI (l : List Ik) : RiseI (setI l) := by
  suffices h : ∀ (l a : List Ik), RiseI a → RiseI (l.foldl (fun a x => insI x a) a) from h l [] List.Pairwise.nil
  intro l
  induction l with
  | nil => exact fun a h => h
  | cons x r ih => exact fun a h => ih _ (rise_insI x a h)
/-- Two rising rows of the same ids are one. -/
theorem rise_ext : ∀ {a b : List Ik}, RiseI a → RiseI b → (∀ z, z ∈ a ↔ z ∈ b) → a = b
  | [], [], _, _, _ => rfl
  | [], y :: r, _, _, h => absurd ((h y).2 (by simp)) (by simp)
  | x :: s, [], _, _, h => absurd ((h x).1 (by simp)) (by simp)
  | x :: s, y :: r, ha, hb, h => by
    obtain ⟨h1, h2⟩ := List.pairwise_cons.1 ha
    obtain ⟨h3, h4⟩ := List.pairwise_cons.1 hb
    have hxy : x = y := by
      rcases List.mem_cons.1 ((h x).1 (by simp)) with e | hx
      · exact e
      · rcases List.mem_cons.1 ((h y).2 (by simp)) with e | hy
        · exact e.symm
        · exact absurd (i_trans (h3 x hx) (h1 y hy)) (i_irrefl y)
    subst hxy
    rw [rise_ext h2 h4 fun z => ?_]
    constructor
    · intro hz
      rcases List.mem_cons.1 ((h z).1 (List.mem_cons_of_mem _ hz)) with e | hz2
      · subst e; exact absurd (h1 z hz) (i_irrefl z)
      · exact hz2
    · intro hz
      rcases List.mem_cons.1 ((h z).2 (List.mem_cons_of_mem _ hz)) with e | hz2
      · subst e; exact absurd (h3 z hz) (i_irrefl z)
      · exact hz2
theorem insI_in {x : Ik} {l : List Ik} (hr : RiseI l) (h : x ∈ l) : insI x l = l := rise_ext (rise_insI x l hr) hr fun z => by rw [mem_insI]; constructor; (rintro (rfl | h2); exact h; exact h2); exact fun h2 => .inr h2
theorem insI_len (x : Ik) : ∀ l, (insI x l).length ≤ l.length + 1
  | [] => by simp [insI]
  | y :: r => by
    have := insI_len x r
    unfold insI
    split
    · simp; omega
    · split <;> simp
theorem setI_len (l : List Ik) : (setI l).length ≤ l.length := by
  suffices h : ∀ (l a : List Ik), (l.foldl (fun a x => insI x a) a).length ≤ l.length + a.length by simpa [setI] using h l []
  intro l
  induction l with
  | nil => simp
  | cons x r ih =>
    intro a
    have h1 := ih (insI x a)
    have h2 := insI_len x a
    simp only [List.foldl_cons, List.length_cons]
    omega
/-- A patch's ids, one behind the other. -/
def rowI (p : List UInt8) (first n : Int) : List Ik := if 0 ≤ first ∧ 1 ≤ n ∧ n ≤ 2000 then (List.range n.toNat).map fun (i : Nat) => (p, first + (i : Int)) else []

/-- Decimal digits. -/
def digits (n : Nat) : List UInt8 := if h : n < 10 then [48 + UInt8.ofNat n] else digits (n / 10) ++ [48 + UInt8.ofNat (n % 10)]
termination_by n
decreasing_by omega
/-- May it be? -/
def okI (right : List UInt8 → Bool) (x : Ik) : Bool := if x.1 = [] then decide (0 ≤ x.2 ∧ x.2 ≤ 2) else right x.1 && decide (0 ≤ x.2 ∧ x.2 ≤ 1048576)
def textI (right : List UInt8 → Bool) (x : Ik) : List UInt8 := if okI right x then x.1 ++ 35 :: digits x.2.toNat else []
end Go.Proofs.YtifkpelcdihdoaaGreatDoor
namespace Go.Proofs.YtifkpelcdihdoaaGreatDoor
open Go.RowKit
set_option linter.unusedVariables false

/-- An id as it lies: its patch, its number. -/
structure Im where
  p : ByteArray
  n : Int
deriving DecidableEq
def Im.key (x : Im) : Ik := (x.p.data.toList, x.n)
def Im.val (x : Im) : Value := .agg #[.string x.p, .int .i64 x.n]
/-- Its text and its number are what Go may hold. -/
def Im.Ok (x : Im) : Prop := x.p.size ≤ 9223372036854775807 ∧ -9223372036854775808 ≤ x.n ∧ x.n ≤ 9223372036854775807
theorem Im.key_inj {x y : Im} (h : x.key = y.key) : x = y := by
  obtain ⟨p, n⟩ := x
  obtain ⟨q, m⟩ := y
  simp only [Im.key, Prod.mk.injEq] at h
  obtain ⟨h1, rfl⟩ := h
  rw [bytes_inj h1]
def ikeys (l : List Im) : List Ik := l.map Im.key
theorem ikeys_len (l : List Im) : (ikeys l).length = l.length := by simp [ikeys]
theorem ikeys_inj {a b : List Im} (h : ikeys a = ikeys b) : a = b := List.map_inj_right (fun _ _ => Im.key_inj) |>.1 h
/-- Ids as records of two cells. -/
def idR : Rk Im where
  ty := 81
  tys := 82
  k := 2
  bytes := 24
  zero := .agg #[.string ByteArray.empty, .int .i64 0]
  enc := fun x => [.string x.p, .int .i64 x.n]
  len := fun _ => rfl
  one := fun x u hu => by
    simp only [List.mem_cons, List.not_mem_nil, or_false] at hu
    rcases hu with rfl | rfl <;> rfl
  pos := by decide
  small := by decide
  zsz := rfl
  info := by kernel_rfl
  und := Tryz.underlying82
abbrev Ids (w : World) (B : Nat) (A : Option Addr) (l : List Im) : Prop := idR.Row w B A l
abbrev OwnId (w : World) (B : Nat) (v : Value) (l : List Im) : Prop := idR.Own w B v l
abbrev IdAt (w : World) (g : Nat) (x : Im) : Prop := idR.At w g x
theorem ids_get {w : World} {B : Nat} {A : Option Addr} {l : List Im} (h : Ids w B A l) {j : Nat} (hj : j < l.length) : ∃ b off, A = some ⟨b, off, none⟩ ∧ b < B ∧ w.cell? ⟨b, off + j * 2, none⟩ = some (.string l[j].p) ∧ w.cell? ⟨b, off + j * 2 + 1, none⟩ = some (.int .i64 l[j].n) := by
  obtain ⟨b, off, e, hlt, hc⟩ := h.get hj
  exact ⟨b, off, e, hlt, hc 0 _ rfl, hc 1 _ rfl⟩
theorem id_c0 {w : World} {g : Nat} {x : Im} (h : IdAt w g x) : w.cell? ⟨g, 0, none⟩ = some (.string x.p) := h.cell (r := 0) rfl
theorem id_c1 {w : World} {g : Nat} {x : Im} (h : IdAt w g x) : w.cell? ⟨g, 1, none⟩ = some (.int .i64 x.n) := h.cell (r := 1) rfl
theorem id_new (w : World) (p : ByteArray) (n : Int) : IdAt (w.alloc (.cells #[.string p, .int .i64 n] 81)) w.heap.size ⟨p, n⟩ := Rk.At.new_ w (⟨p, n⟩ : Im)
theorem id_box (w : World) (x : Im) : Below w.heap.size w (w.alloc (.cells #[.string x.p, .int .i64 x.n] 81)) ∧ IdAt (w.alloc (.cells #[.string x.p, .int .i64 x.n] 81)) w.heap.size x := ⟨(Below.refl _ _).alloc (Nat.le_refl _) _, id_new w x.p x.n⟩
theorem id_box2 (w : World) (x y : Im) : Below w.heap.size w ((w.alloc (.cells #[.string x.p, .int .i64 x.n] 81)).alloc (.cells #[.string y.p, .int .i64 y.n] 81)) ∧
    IdAt ((w.alloc (.cells #[.string x.p, .int .i64 x.n] 81)).alloc (.cells #[.string y.p, .int .i64 y.n] 81)) w.heap.size x ∧ IdAt ((w.alloc (.cells #[.string x.p, .int .i64 x.n] 81)).alloc (.cells #[.string y.p, .int .i64 y.n] 81)) (w.heap.size + 1) y := by
  obtain ⟨b1, h1⟩ := id_box w x
  obtain ⟨b2, h2⟩ := id_box (w.alloc (.cells #[.string x.p, .int .i64 x.n] 81)) y
  refine ⟨b1.trans (b2.mono b1.size), h1.on b2, ?_⟩
  have e : (w.alloc (.cells #[.string x.p, .int .i64 x.n] 81)).heap.size = w.heap.size + 1 := by simp
  rw [e] at h2
  exact h2
end Go.Proofs.YtifkpelcdihdoaaGreatDoor
namespace Go.Proofs.YtifkpelcdihdoaaGreatDoor
open Go.RowKit
set_option linter.unusedVariables false

/-- A call hands back a row of texts; new blocks alone are made. -/
def RowLeft (w : World) (ls : List (List UInt8)) (e : Ending) (w' : World) : Prop :=
  ∃ A cap, e = .returned (.slice A ls.length cap) ∧ (A = none → cap = 0) ∧ Strs w' w'.heap.size A (toBs ls) ∧ Below w.heap.size w w'
theorem own_row {w : World} {ls : List (List UInt8)} {e : Ending} {w' : World} (h : ∃ v, e = .returned v ∧ OwnS w' w.heap.size v ls ∧ Below w.heap.size w w') : RowLeft w ls e w' := by
  obtain ⟨v, rfl, ho, hb⟩ := h
  obtain ⟨A, cap, rfl, hs, _, _⟩ := ho.strs
  exact ⟨A, cap, rfl, ho.at_.2.1.1, hs, hb⟩

theorem cell_on {w w' : World} {b off : Nat} {v : Value} (h : w.cell? ⟨b, off, none⟩ = some v) (hb : Below w.heap.size w w') : w'.cell? ⟨b, off, none⟩ = some v := (hb.cell (p := ⟨b, off, none⟩) (World.block_lt_of_cell? _ _ h)).trans h
theorem grown_cell (w : World) (g i : Nat) (v : Value) : w.grownBy (w.setCell ⟨g, i, none⟩ v) (some g) :=
  ⟨rfl, rfl, rfl, by simp [World.setCell], fun k _ hne => Below.heap_setCell w _ v k (fun e => hne (by simp [e]))⟩
theorem below_dr {w w' : World} (h : Below w.drew.heap.size w.drew w') : Below w.heap.size w w' := ⟨h.os, h.tape, h.output, h.size, h.block⟩
/-- Rows held while new blocks are made. -/
def Held (w0 w : World) (l : List (Option Addr × List (List UInt8))) : Prop :=
  Below w0.heap.size w0 w ∧ ∀ p ∈ l, Strs w w.heap.size p.1 (toBs p.2)
theorem Held.step {w0 w w' : World} {l : List (Option Addr × List (List UInt8))} (h : Held w0 w l) (hb : Below w.heap.size w w') : Held w0 w' l :=
  ⟨h.1.trans (hb.mono h.1.size), fun p hp => (h.2 p hp).on hb⟩
theorem Held.get {w0 w : World} {l : List (Option Addr × List (List UInt8))} {A : Option Addr} {ls : List (List UInt8)} (h : Held w0 w l) (hp : (A, ls) ∈ l) : Strs w w.heap.size A (toBs ls) := h.2 _ hp
theorem Held.quiet {w0 w : World} {l : List (Option Addr × List (List UInt8))} (h : Held w0 w l) (q : Nat) : Held w0 (w.drewN q) l :=
  ⟨below_drewN h.1 q, fun p hp => h.2 p hp⟩
theorem Held.nil (w : World) : Held w w [] := ⟨Below.refl _ _, fun p hp => by cases hp⟩
end Go.Proofs.YtifkpelcdihdoaaGreatDoor
namespace Go.Proofs.YtifkpelcdihdoaaGreatDoor
open Go.RowKit
set_option linter.unusedVariables false

namespace Rk
theorem grown_below {w w' w2 : World} {g : Nat} (h : w.grownBy w' (some g)) (hb : Below w'.heap.size w' w2) : w.grownBy w2 (some g) :=
  ⟨hb.os.trans h.os, hb.tape.trans h.tape, hb.output.trans h.output, Nat.le_trans h.size hb.size, fun k hk hne => (hb.block k (Nat.lt_of_lt_of_le hk h.size)).trans (h.block k hk hne)⟩
theorem grown_both {a b c : World} {row : Option Nat} (h : a.grownBy b row) (k : b.grownBy c row) : a.grownBy c row := ⟨k.os.trans h.os, k.tape.trans h.tape, k.output.trans h.output, Nat.le_trans h.size k.size, fun i hi hr => (k.block i (Nat.lt_of_lt_of_le hi h.size) hr).trans (h.block i hi hr)⟩
theorem grown_refl (w : World) (g : Nat) : w.grownBy w (some g) := ⟨rfl, rfl, rfl, Nat.le_refl _, fun _ _ _ => rfl⟩
theorem setCells_block (g : Nat) : ∀ (vs : List Value) (o : Nat) (w : World), ∀ k, k ≠ g → (w.setCells g o vs).heap[k]? = w.heap[k]?
  | [], _, _, _, _ => rfl
  | v :: r, o, w, k, h => by
    rw [World.setCells, setCells_block g r _ _ k h]
    exact Below.heap_setCell w ⟨g, o, none⟩ v k h
theorem setCells_size (g : Nat) : ∀ (vs : List Value) (o : Nat) (w : World), (w.setCells g o vs).heap.size = w.heap.size
  | [], _, _ => rfl
  | v :: r, o, w => by rw [World.setCells, setCells_size g r]; simp [World.setCell]
theorem setCells_rest (g : Nat) : ∀ (vs : List Value) (o : Nat) (w : World), (w.setCells g o vs).os = w.os ∧ (w.setCells g o vs).tape = w.tape ∧ (w.setCells g o vs).output = w.output
  | [], _, _ => ⟨rfl, rfl, rfl⟩
  | v :: r, o, w => by rw [World.setCells]; exact setCells_rest g r (o + 1) _
theorem setCells_grown (w : World) (g o : Nat) (vs : List Value) : w.grownBy (w.setCells g o vs) (some g) :=
  ⟨(setCells_rest g vs o w).1, (setCells_rest g vs o w).2.1, (setCells_rest g vs o w).2.2, Nat.le_of_eq (setCells_size g vs o w).symm, fun k hk hne => setCells_block g vs o w k fun e => hne (by rw [e])⟩
/-- Cells written over in a list. -/
def over : List Value → Nat → List Value → List Value
  | l, _, [] => l
  | l, o, v :: r => over (l.set o v) (o + 1) r
theorem over_len : ∀ (vs : List Value) (l : List Value) (o : Nat), (over l o vs).length = l.length
  | [], l, o => rfl
  | v :: r, l, o => by rw [over, over_len r, List.length_set]
theorem over_get : ∀ (vs : List Value) (l : List Value) (o t : Nat), (over l o vs)[t]? = if o ≤ t ∧ t < o + vs.length ∧ t < l.length then vs[t - o]? else l[t]?
  | [], l, o, t => by rw [over, if_neg (by simp; omega)]
  | v :: r, l, o, t => by
    rw [over, over_get r, List.length_set]
    by_cases h : t = o
    · subst h
      rw [if_neg (by omega)]
      by_cases hl : t < l.length
      · rw [if_pos ⟨by omega, by simp, hl⟩, List.getElem?_set_self hl, Nat.sub_self]
        rfl
      · rw [if_neg (by omega), List.getElem?_eq_none (by simp; omega), List.getElem?_eq_none (by omega)]
    · by_cases h2 : o + 1 ≤ t ∧ t < o + 1 + r.length ∧ t < l.length
      · rw [if_pos h2, if_pos ⟨by omega, by simp; omega, h2.2.2⟩, show t - o = (t - (o + 1)) + 1 by omega, List.getElem?_cons_succ]
      · rw [if_neg h2, List.getElem?_set_ne (fun e => h e.symm), if_neg (by simp only [List.length_cons]; omega)]
theorem setCells_arr (g : Nat) (t : TypeId) : ∀ (vs : List Value) (o : Nat) (w : World) (cur : Array Value), w.heap[g]? = some (.cells cur t (0, 0)) →
    ∃ cur', (w.setCells g o vs).heap[g]? = some (.cells cur' t (0, 0)) ∧ cur'.toList = over cur.toList o vs
  | [], _, w, cur, h => ⟨cur, h, rfl⟩
  | v :: r, o, w, cur, h => by
    obtain ⟨c2, h1, h2⟩ := setCells_arr g t r (o + 1) (w.setCell ⟨g, o, none⟩ v) (cur.setIfInBounds o v) (by simp [World.setCell, Array.getElem?_modify, h])
    refine ⟨c2, h1, ?_⟩
    rw [h2, Array.toList_setIfInBounds, over]
variable {α : Type}
/-- A row of records in a block of its own, from its beginning on; the block has room for cap. -/
structure Blk (R : Rk α) (w : World) (g cap : Nat) (d : List α) : Prop where
  h : ∃ cur, w.heap[g]? = some (.cells cur R.ty (0, 0)) ∧ cur.size = cap * R.k ∧ cur.toList.take (d.length * R.k) = R.cells d
  len : d.length ≤ cap
  max : cap ≤ maxLen
variable {R : Rk α} {w w' : World} {g cap : Nat} {d : List α}
theorem Blk.own (k : R.Blk w g cap d) {B : Nat} (hB : B ≤ g) : R.Own w B (.slice (some ⟨g, 0, none⟩) d.length cap) d := by
  obtain ⟨cur, h1, h2, h3⟩ := k.h
  exact ⟨R.cells_len d, .inr ⟨g, cap, cur, rfl, hB, h1, k.len, k.max, h2, h3⟩⟩
theorem Blk.lt (k : R.Blk w g cap d) : g < w.heap.size := by
  obtain ⟨cur, h1, _⟩ := k.h
  exact (Array.getElem?_eq_some_iff.1 h1).1
theorem Blk.cell (k : R.Blk w g cap d) {j : Nat} (hj : j < d.length) {r : Nat} {u : Value} (hu : (R.enc d[j])[r]? = some u) : w.cell? ⟨g, j * R.k + r, none⟩ = some u := by
  have hr : r < R.k := by
    have := (List.getElem?_eq_some_iff.1 hu).1
    rwa [R.len] at this
  have hm : j * R.k + r < d.length * R.k := by
    have h1 : (j + 1) * R.k ≤ d.length * R.k := Nat.mul_le_mul_right _ hj
    rw [Nat.add_mul, Nat.one_mul] at h1
    omega
  rw [← R.cells_get d j hj r hr] at hu
  obtain ⟨cur, h1, h2, h3⟩ := k.h
  rw [← h3, List.getElem?_take, if_pos hm, Array.getElem?_toList] at hu
  simp only [World.cell?, h1, Option.isSome_none, Bool.false_eq_true, if_false]
  exact hu
theorem Blk.fz (k : R.Blk w g cap d) (i : Nat) : w.frozen? ⟨g, i, none⟩ = false := by
  obtain ⟨cur, h1, _⟩ := k.h
  simp [World.frozen?, h1]
theorem Blk.some_ (k : R.Blk w g cap d) {i : Nat} (hi : i < cap * R.k) : (w.cell? ⟨g, i, none⟩).isSome = true := by
  obtain ⟨cur, h1, h2, _⟩ := k.h
  simp only [World.cell?, h1, Option.isSome_none, Bool.false_eq_true, if_false]
  rw [Array.getElem?_eq_getElem (by omega)]
  rfl
theorem Blk.on (k : R.Blk w g cap d) (hb : Below w.heap.size w w') : R.Blk w' g cap d := by
  obtain ⟨cur, h1, h2, h3⟩ := k.h
  exact ⟨⟨cur, (hb.block g k.lt).trans h1, h2, h3⟩, k.len, k.max⟩
theorem Blk.take (k : R.Blk w g cap d) (i : Nat) (hi : i ≤ d.length) : R.Blk w g cap (d.take i) := by
  obtain ⟨cur, h1, h2, h3⟩ := k.h
  refine ⟨⟨cur, h1, h2, ?_⟩, by rw [List.length_take]; have := k.len; omega, k.max⟩
  have e : R.cells d = R.cells (d.take i) ++ R.cells (d.drop i) := by rw [← cells_app, List.take_append_drop]
  have hl : (R.cells (d.take i)).length = i * R.k := by rw [cells_len, List.length_take, Nat.min_eq_left hi]
  have h4 := congrArg (List.take (i * R.k)) h3
  rw [List.take_take, e, List.take_left' hl, Nat.min_eq_left (Nat.mul_le_mul_right _ hi)] at h4
  rw [List.length_take, Nat.min_eq_left hi]
  exact h4
theorem Blk.row (k : R.Blk w g cap d) : R.Row w w.heap.size (some ⟨g, 0, none⟩) d := (k.own (Nat.zero_le _)).parts.2.1
theorem cells_set : ∀ (d : List α) (i : Nat) (x : α), i < d.length → R.cells (d.set i x) = over (R.cells d) (i * R.k) (R.enc x) := fun d i x hi => by
  refine List.ext_getElem? fun t => ?_
  rw [over_get, R.len, R.cells_len]
  by_cases ht : t < d.length * R.k
  · obtain ⟨j, r, hj, hr, rfl⟩ := R.at_place d ht
    rw [R.cells_get _ j (by simpa using hj) r hr]
    by_cases e : j = i
    · subst e
      rw [if_pos ⟨by omega, by omega, ht⟩, Nat.add_sub_cancel_left, List.getElem_set_self]
    · rw [if_neg, R.cells_get d j hj r hr, List.getElem_set_ne (fun h => e h.symm)]
      rintro ⟨h1, h2, _⟩
      rcases Nat.lt_or_gt_of_ne e with h | h
      · have h3 : (j + 1) * R.k ≤ i * R.k := Nat.mul_le_mul_right _ h
        rw [Nat.add_mul] at h3
        omega
      · have h3 : (i + 1) * R.k ≤ j * R.k := Nat.mul_le_mul_right _ h
        rw [Nat.add_mul] at h3
        omega
  · rw [if_neg (by omega), List.getElem?_eq_none (by rw [R.cells_len, List.length_set]; omega), List.getElem?_eq_none (by rw [R.cells_len]; omega)]
theorem over_take (l vs : List Value) (o m : Nat) : (over l o vs).take m = over (l.take m) o vs := by
  refine List.ext_getElem? fun t => ?_
  rw [List.getElem?_take, over_get, over_get, List.length_take, List.getElem?_take]
  by_cases h : t < m
  · rw [if_pos h, if_pos h]
    by_cases h2 : o ≤ t ∧ t < o + vs.length ∧ t < l.length
    · rw [if_pos h2, if_pos (by omega)]
    · rw [if_neg h2, if_neg (by omega)]
  · rw [if_neg h, if_neg h]
    split <;> first | omega | rfl
/-- A record written over another. -/
theorem Blk.put (k : R.Blk w g cap d) {i : Nat} (hi : i < d.length) (x : α) : R.Blk (w.setCells g (i * R.k) (R.enc x)) g cap (d.set i x) := by
  obtain ⟨cur, h1, h2, h3⟩ := k.h
  obtain ⟨c2, e1, e2⟩ := setCells_arr g R.ty (R.enc x) (i * R.k) w cur h1
  refine ⟨⟨c2, e1, ?_, ?_⟩, by simpa using k.len, k.max⟩
  · have h := congrArg List.length e2
    rw [over_len, Array.length_toList, Array.length_toList, h2] at h
    exact h
  · rw [List.length_set, e2, cells_set d i x hi, ← h3, over_take]
theorem Blk.cleared (k : R.Blk w g cap d) (vs : List Value) : R.Blk (w.setCells g (d.length * R.k) vs) g cap d := by
  obtain ⟨cur, h1, h2, h3⟩ := k.h
  obtain ⟨c2, e1, e2⟩ := setCells_arr g R.ty vs (d.length * R.k) w cur h1
  refine ⟨⟨c2, e1, ?_, ?_⟩, k.len, k.max⟩
  · have h := congrArg List.length e2
    rw [over_len, Array.length_toList, Array.length_toList, h2] at h
    exact h
  · rw [e2, over_take, h3]
    refine List.ext_getElem? fun t => ?_
    rw [over_get, R.cells_len, if_neg (by omega)]
theorem own_cases {B : Nat} {v : Value} (h : R.Own w B v d) : (v = .slice none 0 0 ∧ d = []) ∨ ∃ g cap, v = .slice (some ⟨g, 0, none⟩) d.length cap ∧ B ≤ g ∧ R.Blk w g cap d := by
  rcases h.2 with ⟨e, h0⟩ | ⟨g, cap, cur, e, hb, hg, hle, hm, hs, ht⟩
  · exact .inl ⟨e, List.length_eq_zero_iff.1 h0⟩
  · exact .inr ⟨g, cap, e, hb, ⟨cur, hg, hs, ht⟩, hle, hm⟩
/-- A variable of a record written over. -/
theorem At.put {x0 : α} (k : R.At w g x0) (x : α) : R.At (w.setCells g 0 (R.enc x)) g x := by
  obtain ⟨c2, e1, e2⟩ := setCells_arr g R.ty (R.enc x) 0 w _ k
  have h : c2 = (R.enc x).toArray := by
    apply Array.toList_inj.1
    rw [e2]
    refine List.ext_getElem? fun t => ?_
    rw [over_get, List.toList_toArray, List.toList_toArray, R.len, R.len]
    by_cases ht : t < R.k
    · rw [if_pos ⟨Nat.zero_le _, by omega, ht⟩, Nat.sub_zero]
    · rw [if_neg (by omega), List.getElem?_eq_none (by rw [R.len]; omega), List.getElem?_eq_none (by rw [R.len]; omega)]
  subst h
  exact e1
end Rk
end Go.Proofs.YtifkpelcdihdoaaGreatDoor
namespace Go.Proofs.YtifkpelcdihdoaaGreatDoor
open Go.RowKit
set_option linter.unusedVariables false

theorem str_ne {s t : ByteArray} (h : s ≠ t) : (s.toList == t.toList) = false := by
  rw [beq_eq_false_iff_ne]
  intro e
  rw [toList_eq, toList_eq] at e
  exact h (bytes_inj e)
theorem str_ne_empty {s : ByteArray} (h : s ≠ ⟨#[]⟩) : (s.toList == []) = false := by
  rw [beq_eq_false_iff_ne]
  intro e
  rw [toList_eq] at e
  exact h (bytes_inj e)
theorem str_eqb (s : ByteArray) : (s.toList == s.toList) = true := by simp
theorem toB_size (l : List UInt8) : (toB l).size = l.length := by simp [toB, ByteArray.size]
end Go.Proofs.YtifkpelcdihdoaaGreatDoor
namespace Go.Proofs.YtifkpelcdihdoaaGreatDoor
open Go.RowKit
set_option linter.unusedVariables false

theorem im_eqb (x y : Im) : decide (x = y) = ((x.p.toList == y.p.toList) && (x.n == y.n)) := by
  by_cases h : x = y
  · subst h
    simp
  · rw [decide_eq_false h]
    by_cases h2 : x.p = y.p
    · have h3 : x.n ≠ y.n := fun e => h (by obtain ⟨p, n⟩ := x; obtain ⟨q, m⟩ := y; simp_all)
      simp [h3]
    · rw [str_ne h2]
      rfl
set_option maxRecDepth 100000 in
theorem eql_id (x y : Im) (w : World) : (binOp .eql 81 (.agg #[.string x.p, .int .i64 x.n]) (.agg #[.string y.p, .int .i64 y.n])).run Tryz.prog w = .ok (.bool (decide (x = y))) w := by
  rw [run_eql_struct, im_eqb]
  cases h1 : (x.p.toList == y.p.toList) <;> cases h2 : (x.n == y.n) <;> simp [go_sem, h1, h2]
set_option maxRecDepth 100000 in
theorem neq_id (x y : Im) (w : World) : (binOp .neq 81 (.agg #[.string x.p, .int .i64 x.n]) (.agg #[.string y.p, .int .i64 y.n])).run Tryz.prog w = .ok (.bool (!decide (x = y))) w := by
  rw [run_neq_struct, im_eqb]
  cases h1 : (x.p.toList == y.p.toList) <;> cases h2 : (x.n == y.n) <;> simp [go_sem, h1, h2]
end Go.Proofs.YtifkpelcdihdoaaGreatDoor
namespace Go.Proofs.YtifkpelcdihdoaaGreatDoor
open Go.RowKit
set_option linter.unusedVariables false

def nameL : ByteArray := ⟨#[97, 98, 99, 100, 101, 102, 103, 104, 105, 106, 107, 108, 109, 110, 111, 112, 113, 114, 115, 116, 117, 118, 119, 120, 121, 122, 48, 49, 50, 51, 52, 53, 54, 55, 56, 57, 46, 95, 45]⟩
/-- Is each byte of a text one of these letters? -/
def allIn (L s : ByteArray) : Bool := s.data.toList.all fun c => L.data.toList.contains c
theorem indexByte_neg (c : UInt8) : ∀ l, Lib.indexByte l c < 0 ↔ l.contains c = false
  | [] => by simp [Lib.indexByte]
  | b :: l => by
    have ih := indexByte_neg c l
    have hg := Lib.indexByte_ge l c
    unfold Lib.indexByte
    by_cases h : b = c
    · subst h; simp
    · have h1 : (b == c) = false := by simpa using h
      have h2 : (c == b) = false := by simpa using fun e => h e.symm
      rw [List.contains_cons, h1, h2]
      simp only [Bool.false_eq_true, if_false, Bool.false_or]
      rw [← ih]
      split
      · rename_i h3
        have : Lib.indexByte l c = -1 := by simpa using h3
        omega
      · rename_i h3
        have : Lib.indexByte l c ≠ -1 := by simpa using h3
        omega
theorem allIn_no {L s : ByteArray} {k : Nat} (hk : k < s.size) (h : L.data.toList.contains s[k] = false) : allIn L s = false := by
  have : ¬ (s.data.toList.all fun c => L.data.toList.contains c) = true := by
    rw [List.all_eq_true]
    intro ha
    have := ha s[k] (by rw [show s[k] = s.data.toList[k]'(by simpa using hk) from rfl]; exact List.getElem_mem _)
    rw [h] at this
    cases this
  simpa [allIn] using this
theorem allIn_yes {L s : ByteArray} (h : ∀ k (hk : k < s.size), L.data.toList.contains s[k] = true) : allIn L s = true := by
  unfold allIn
  rw [List.all_eq_true]
  intro c hc
  obtain ⟨k, hk, rfl⟩ := List.getElem_of_mem hc
  exact h k (by simpa using hk)

set_option maxRecDepth 100000 in
theorem madeOf1_any (B : Nat) (L s : ByteArray) (w : World) (hB : B < w.heap.size) (hc : w.cell? ⟨B, 0, none⟩ = some (.string L)) (hs : s.size ≤ 9223372036854775807) :
    Calls Tryz.prog 117 #[.string s, .pointer (some ⟨B, 0, none⟩)] w fun e w' => e = .returned (.bool (allIn L s)) ∧ Below w.heap.size w w' := by
  go_enter Tryz.func117, Tryz.ntmps117
  go_wp2
  go_loopw [7] (fun i wr => ∃ k : Nat, k ≤ s.size ∧ i = .int .i64 (k : Int) ∧ Hid (∀ j (hj : j < s.size), j < k → L.data.toList.contains s[j] = true) ∧ Below w.heap.size w wr) (fun i _ => s.size - (intOf i).toNat)
  case atStart => exact ⟨0, Nat.zero_le _, rfl, fun j _ h => absurd h (by omega), Below.refl _ _⟩
  case round =>
    obtain ⟨k, hk, rfl, hall, hb⟩ := hrel
    have hcr : wr.cell? ⟨B, 0, none⟩ = some (.string L) := (hb.cell (p := ⟨B, 0, none⟩) hB).trans hc
    by_cases hlt : k < s.size
    · have hx : ∀ W, Calls Tryz.prog 118 #[.string L, .int .u8 (s[k].toNat : Int)] W fun e w' => e = .returned (.int .i64 (Lib.indexByte L.data.toList s[k])) ∧ w' = W := fun W => by
        have h := Tryz.strings_IndexByte L (s[k].toNat : Int) W
        simpa using h
      by_cases hin : L.data.toList.contains s[k] = true
      · have hneg : ¬ Lib.indexByte L.data.toList s[k] < 0 := by
          rw [indexByte_neg, hin]; simp
        have hyes : Hid (∀ j (hj : j < s.size), j < k + 1 → L.data.toList.contains s[j] = true) := by
          intro j hj hjk
          by_cases hjk2 : j = k
          · subst hjk2; exact hin
          · exact hall.out j hj (by omega)
        clear hall hin
        generalize Lib.indexByte L.data.toList s[k] = x at *
        go_wp2
        go_quiet (first | (go_at_call 118; refine Calls.quiet_of_same (hx _)))
        go_wp2
        go_roundw
        case rel => exact ⟨k + 1, by omega, by go_num, hyes, below_drewN hb _⟩
        case measure => simp [intOf]; omega
      · have hin2 : L.data.toList.contains s[k] = false := by simpa using hin
        have hneg : Lib.indexByte L.data.toList s[k] < 0 := (indexByte_neg _ _).2 hin2
        have hno := Lib.hid (allIn_no hlt hin2)
        clear hall hin hin2
        generalize Lib.indexByte L.data.toList s[k] = x at *
        go_wp2
        go_quiet (first | (go_at_call 118; refine Calls.quiet_of_same (hx _)))
        go_wp2
        go_ret
        rw [hno.out]
        exact ⟨rfl, below_drewN hb _⟩
    · have hk2 : k = s.size := by omega
      subst hk2
      have hyes := Lib.hid (allIn_yes fun j hj => hall.out j hj hj)
      clear hall
      go_wp2
      go_ret
      rw [hyes.out]
      exact ⟨rfl, hb⟩

/-- Is a text a name? -/
def rightB (s : ByteArray) : Bool := decide (1 ≤ s.size) && decide (s.size ≤ 40) && decide (s ≠ ⟨#[46]⟩) && decide (s ≠ ⟨#[46, 46]⟩) && allIn nameL s
theorem rightB_full {s : ByteArray} (h1 : 1 ≤ s.size) (h2 : s.size ≤ 40) (h3 : s ≠ ⟨#[46]⟩) (h4 : s ≠ ⟨#[46, 46]⟩) : rightB s = allIn nameL s := by
  simp [rightB, h1, h2, h3, h4]
theorem ne_toList {s : ByteArray} {l : List UInt8} (h : s ≠ ⟨l.toArray⟩) : ¬ s.toList = l := by
  intro e
  rw [toList_eq] at e
  exact h (bytes_inj (by rw [e]))
theorem ne_beq {s : ByteArray} {l : List UInt8} (h : s ≠ ⟨l.toArray⟩) : (s.toList == l) = false := by
  rw [beq_eq_false_iff_ne]
  exact ne_toList h

/-- What madeOf leaves: a function that asks the letters. -/
theorem madeOf_any (L : ByteArray) (w : World) :
    Calls Tryz.prog 96 #[.string L] w fun e w' => e = .returned (.func (.func 117) #[] #[.pointer (some ⟨w.heap.size, 0, none⟩)]) ∧ w' = w.alloc (.cells #[.string L] 9) := by
  go_enter Tryz.func96, Tryz.ntmps96
  go_wp2
  go_ret
  exact ⟨rfl, rfl⟩

set_option maxRecDepth 100000 in
theorem right_any (s : ByteArray) (w : World) (hs : s.size ≤ 9223372036854775807) :
    Calls Tryz.prog 82 #[.string s] w fun e w' => e = .returned (.bool (rightB s)) ∧ Below w.heap.size w w' := by
  by_cases h1 : s.size < 1
  · have hr : rightB s = false := by simp [rightB]; omega
    rw [hr]
    go_enter Tryz.func82, Tryz.ntmps82
    go_wp2
    go_ret
    exact ⟨rfl, Below.refl _ _⟩
  · by_cases h2 : 40 < s.size
    · have hr : rightB s = false := by simp [rightB]; omega
      rw [hr]
      go_enter Tryz.func82, Tryz.ntmps82
      go_wp2
      go_ret
      exact ⟨rfl, Below.refl _ _⟩
    · by_cases h3 : s = ⟨#[46]⟩
      · subst h3
        have hr : rightB ⟨#[46]⟩ = false := by decide
        rw [hr]
        go_enter Tryz.func82, Tryz.ntmps82
        go_wp2
        go_ret
        exact ⟨rfl, Below.refl _ _⟩
      · by_cases h4 : s = ⟨#[46, 46]⟩
        · subst h4
          have hr : rightB ⟨#[46, 46]⟩ = false := by decide
          rw [hr]
          go_enter Tryz.func82, Tryz.ntmps82
          go_wp2
          go_ret
          exact ⟨rfl, Below.refl _ _⟩
        · rw [rightB_full (by omega) (by omega) h3 h4]
          have e3 := ne_toList (l := [46]) h3
          have e4 := ne_toList (l := [46, 46]) h4
          have b3 := ne_beq (l := [46]) h3
          have b4 := ne_beq (l := [46, 46]) h4
          have hc := madeOf1_any w.heap.size nameL s (w.alloc (.cells #[.string nameL] 9)) (by simp) (by rw [World.cell?_alloc_new]; rfl) hs
          have hm := madeOf_any nameL w
          unfold nameL at hm hc
          obtain ⟨r, hr⟩ : ∃ r, Hid (allIn nameL s = r) := ⟨_, rfl⟩
          rw [show allIn ⟨#[97, 98, 99, 100, 101, 102, 103, 104, 105, 106, 107, 108, 109, 110, 111, 112, 113, 114, 115, 116, 117, 118, 119, 120, 121, 122, 48, 49, 50, 51, 52, 53, 54, 55, 56, 57, 46, 95, 45]⟩ s = r from hr.out] at hc
          rw [hr.out]
          clear h3 h4
          go_enter Tryz.func82, Tryz.ntmps82
          go_wp2_with (first
            | (go_at_call 96; refine hm.mono ?_; rintro e w1 ⟨rfl, rfl⟩)
            | (go_at_call 117; refine hc.mono ?_; rintro e w2 ⟨rfl, hb2⟩))
          go_ret
          exact ⟨rfl, ((Below.refl _ w).alloc (Nat.le_refl _) _).trans (hb2.mono (by simp))⟩

end Go.Proofs.YtifkpelcdihdoaaGreatDoor
namespace Go.Proofs.YtifkpelcdihdoaaGreatDoor
open Go.RowKit
set_option linter.unusedVariables false

theorem digits_lt {n : Nat} (h : n < 10) : digits n = [48 + UInt8.ofNat n] := by
  unfold digits
  rw [dif_pos h]
theorem digits_ge {n : Nat} (h : ¬ n < 10) : digits n = digits (n / 10) ++ [48 + UInt8.ofNat (n % 10)] := by
  rw [digits, dif_neg h]
end Go.Proofs.YtifkpelcdihdoaaGreatDoor
namespace Go.Proofs.YtifkpelcdihdoaaGreatDoor
open Go.RowKit
set_option linter.unusedVariables false

def okK (k : Ik) : Bool := okI (fun l => rightB (toB l)) k
def textK (k : Ik) : List UInt8 := textI (fun l => rightB (toB l)) k
theorem digit_val (d : Nat) (h : d < 10) : (48 + UInt8.ofNat d : UInt8).toNat = 48 + d := by
  have hc : d = 0 ∨ d = 1 ∨ d = 2 ∨ d = 3 ∨ d = 4 ∨ d = 5 ∨ d = 6 ∨ d = 7 ∨ d = 8 ∨ d = 9 := by omega
  rcases hc with rfl | rfl | rfl | rfl | rfl | rfl | rfl | rfl | rfl | rfl <;> rfl
theorem digits_in (n : Nat) : ∀ b ∈ digits n, 48 ≤ b.toNat ∧ b.toNat ≤ 57 := by
  induction n using Nat.strongRecOn with
  | _ n ih =>
    intro b hb
    by_cases h : n < 10
    · rw [digits_lt h] at hb
      obtain rfl : b = _ := by simpa using hb
      rw [digit_val n h]
      omega
    · rw [digits_ge h, List.mem_append] at hb
      rcases hb with hb | hb
      · exact ih (n / 10) (by omega) b hb
      · obtain rfl : b = _ := by simpa using hb
        rw [digit_val _ (Nat.mod_lt _ (by omega))]
        omega
theorem digits_no (n : Nat) : (35 : UInt8) ∉ digits n := fun h => by
  have := (digits_in n _ h).1
  revert this
  decide
/-- The number that digits tell. -/
def valD (l : List UInt8) : Nat := l.foldl (fun a b => a * 10 + (b.toNat - 48)) 0
theorem valD_digits (n : Nat) : valD (digits n) = n := by
  induction n using Nat.strongRecOn with
  | _ n ih =>
    by_cases h : n < 10
    · rw [digits_lt h]
      simp only [valD, List.foldl_cons, List.foldl_nil]
      rw [digit_val n h]
      omega
    · rw [digits_ge h]
      have hi := ih (n / 10) (by omega)
      unfold valD at hi ⊢
      rw [List.foldl_append, hi]
      simp only [List.foldl_cons, List.foldl_nil]
      rw [digit_val _ (Nat.mod_lt _ (by omega))]
      omega
theorem digits_inj {n m : Nat} (h : digits n = digits m) : n = m := by rw [← valD_digits n, h, valD_digits]
theorem cut_inj {p q ds es : List UInt8} (hd : (35 : UInt8) ∉ ds) (he : (35 : UInt8) ∉ es) (h : p ++ 35 :: ds = q ++ 35 :: es) : p = q ∧ ds = es := by
  rcases List.append_eq_append_iff.1 h with ⟨a, e1, e2⟩ | ⟨a, e1, e2⟩
  · cases a with
    | nil =>
      simp only [List.append_nil] at e1
      simp only [List.nil_append, List.cons.injEq, true_and] at e2
      exact ⟨e1.symm, e2⟩
    | cons b a =>
      simp only [List.cons_append, List.cons.injEq] at e2
      exact absurd (by rw [e2.2]; simp) hd
  · cases a with
    | nil =>
      simp only [List.append_nil] at e1
      simp only [List.nil_append, List.cons.injEq, true_and] at e2
      exact ⟨e1, e2.symm⟩
    | cons b a =>
      simp only [List.cons_append, List.cons.injEq] at e2
      exact absurd (by rw [e2.2]; simp) he
theorem okK_n {k : Ik} (h : okK k = true) : 0 ≤ k.2 ∧ k.2 ≤ 1048576 := by
  unfold okK okI at h
  split at h
  · have := of_decide_eq_true h
    omega
  · exact of_decide_eq_true (Bool.and_eq_true_iff.1 h).2
theorem textK_ok {k : Ik} (h : okK k = true) : textK k = k.1 ++ 35 :: digits k.2.toNat := by
  unfold textK textI
  rw [if_pos (show okI (fun l => rightB (toB l)) k = true from h)]
theorem textK_inj {k m : Ik} (hk : okK k = true) (hm : okK m = true) (h : textK k = textK m) : k = m := by
  rw [textK_ok hk, textK_ok hm] at h
  obtain ⟨h1, h2⟩ := cut_inj (digits_no _) (digits_no _) h
  have h3 := digits_inj h2
  have a := okK_n hk
  have b := okK_n hm
  exact Prod.ext h1 (by omega)
end Go.Proofs.YtifkpelcdihdoaaGreatDoor
namespace Go.Proofs.YtifkpelcdihdoaaGreatDoor

/-- A number's bytes, with fuel: seven bits a byte, the lowest first. -/
def numF : Nat → Nat → List UInt8
  | 0, n => [UInt8.ofNat n]
  | f + 1, n => if n < 128 then [UInt8.ofNat n] else UInt8.ofNat (128 + n % 128) :: numF f (n / 128)
def numB (n : Nat) : List UInt8 := numF 9 n

theorem numF_lt (f n : Nat) (h : n < 128) : numF f n = [UInt8.ofNat n] := by
  cases f with
  | zero => rfl
  | succ f => simp [numF, h]
theorem numF_ge (f n : Nat) (h : 128 ≤ n) : numF (f + 1) n = UInt8.ofNat (128 + n % 128) :: numF f (n / 128) := by
  simp [numF, Nat.not_lt.2 h]
theorem numF_len : ∀ (f n : Nat), (numF f n).length ≤ f + 1
  | 0, n => by simp [numF]
  | f + 1, n => by
    unfold numF
    split
    · simp
    · simp; exact numF_len f (n / 128)
theorem numB_len (n : Nat) : (numB n).length ≤ 10 := numF_len 9 n
theorem numF_pos (f n : Nat) : 0 < (numF f n).length := by
  cases f with
  | zero => simp [numF]
  | succ f => unfold numF; split <;> simp
theorem div_pow (n f : Nat) (h : n < 128 ^ (f + 2)) : n / 128 < 128 ^ (f + 1) := by
  rw [Nat.div_lt_iff_lt_mul (by omega)]; rw [Nat.pow_succ] at h; exact h
theorem u64_pow (n : Nat) (h : n < 18446744073709551616) : n < 128 ^ (9 + 1) := by
  have : (128 : Nat) ^ (9 + 1) = 1180591620717411303424 := by decide
  omega
theorem toNat_lo (n : Nat) (h : n < 128) : ((UInt8.ofNat n).toNat : Int) = n := by
  simp [UInt8.toNat_ofNat']; omega
theorem toNat_hi (n : Nat) : ((UInt8.ofNat (128 + n % 128)).toNat : Int) = 128 + (n : Int) % 128 := by
  rw [UInt8.toNat_ofNat']; omega
/-- The list of a list's bytes. -/
def textB (s : List UInt8) : List UInt8 := numB s.length ++ s
def textsB : List (List UInt8) → List UInt8
  | [] => []
  | s :: l => textB s ++ textsB l
def listB (l : List (List UInt8)) : List UInt8 := numB l.length ++ textsB l
end Go.Proofs.YtifkpelcdihdoaaGreatDoor
