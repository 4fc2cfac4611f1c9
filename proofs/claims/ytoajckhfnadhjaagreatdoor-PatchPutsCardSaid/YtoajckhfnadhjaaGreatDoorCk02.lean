/- Names of what patches make, plainly: their order, sets of them. Words for memory: ids, rows of ids. Texts held against each other. Ids held against each other as structs. name.Right, and the reference's Right. The reference's Digits, Right, Text of ids. Texts of ids, plainly: each is one id's alone. Plain facts on the bytes of numbers, texts and lists (layer 1): lists and numbers alone, nothing of the program. Plain facts on reading numbers, texts and lists out of bytes: lists and numbers alone. -/
import Derived.Laws.StructEq
import Derived.Handy
import Derived.Test.YtoajckhfnadhjaaGreatDoorShelf
import Derived.BigQuiet
import Derived.Deep.QuietTactic
import Derived.Test.YtoajckhfnadhjaaGreatDoorCk01
namespace Go.Proofs.YtoajckhfnadhjaaGreatDoor
set_option linter.unusedVariables false

/-- An id: the patch's name, the how manieth. -/
abbrev Ik := List UInt8 × Int
def ltI (x y : Ik) : Prop := x.1 < y.1 ∨ (x.1 = y.1 ∧ x.2 < y.2)
instance (x y : Ik) : Decidable (ltI x y) := by unfold ltI; exact inferInstance
theorem i_irrefl (x : Ik) : ¬ ltI x x := by
  rintro (h | ⟨_, h⟩)
  · exact t_irrefl _ h
  · omega
theorem i_trans {x y z : Ik} (h : ltI x y) (h2 : ltI y z) : ltI x z := by
  rcases h with h | ⟨e, h⟩ <;> rcases h2 with h2 | ⟨e2, h2⟩
  · exact .inl (t_trans h h2)
  · exact .inl (e2 ▸ h)
  · exact .inl (e ▸ h2)
  · exact .inr ⟨e.trans e2, by omega⟩
theorem i_tri {x y : Ik} (h : ¬ ltI x y) (h2 : x ≠ y) : ltI y x := by
  by_cases e : x.1 = y.1
  · refine .inr ⟨e.symm, ?_⟩
    have h3 : ¬ x.2 < y.2 := fun h4 => h (.inr ⟨e, h4⟩)
    have h4 : x.2 ≠ y.2 := fun h5 => h2 (Prod.ext e h5)
    omega
  · exact .inl (t_tri (fun h3 => h (.inl h3)) e)
/-- An id put into a set; ids as a set. -/
def insI (x : Ik) : List Ik → List Ik
  | [] => [x]
  | y :: r => if ltI y x then y :: insI x r else if y = x then y :: r else x :: y :: r
def setI (l : List Ik) : List Ik := l.foldl (fun a x => insI x a) []
theorem mem_insI (z x : Ik) : ∀ l, z ∈ insI x l ↔ z = x ∨ z ∈ l
  | [] => by simp [insI]
  | y :: r => by
    unfold insI
    have ih := mem_insI z x r
    split
    · simp only [List.mem_cons, ih]
      constructor
      · rintro (h | h | h) <;> simp [h]
      · rintro (h | h | h) <;> simp [h]
    · split
      · rename_i h; subst h; simp
      · simp
def RiseI (l : List Ik) : Prop := l.Pairwise ltI
theorem rise_insI (x : Ik) : ∀ l, RiseI l → RiseI (insI x l)
  | [], _ => by simp [insI, RiseI]
  | y :: r, h => by
    unfold RiseI at h
    obtain ⟨h1, h2⟩ := List.pairwise_cons.1 h
    unfold insI
    split
    · rename_i hlt
      refine List.pairwise_cons.2 ⟨fun z hz => ?_, rise_insI x r h2⟩
      rcases (mem_insI z x r).1 hz with rfl | hz
      · exact hlt
      · exact h1 z hz
    · split
      · exact h
      · rename_i hn hne
        have hxy : ltI x y := i_tri hn hne
        refine List.pairwise_cons.2 ⟨fun z hz => ?_, h⟩
        rcases List.mem_cons.1 hz with rfl | hz
        · exact hxy
        · exact i_trans hxy (h1 z hz)
theorem setI_snoc (l : List Ik) (x : Ik) : setI (l ++ [x]) = insI x (setI l) := by simp [setI]
theorem mem_setI (z : Ik) (l : List Ik) : z ∈ setI l ↔ z ∈ l := by
  suffices h : ∀ (l a : List Ik), z ∈ l.foldl (fun a x => insI x a) a ↔ z ∈ l ∨ z ∈ a by simpa [setI] using h l []
  intro l
  induction l with
  | nil => simp
  | cons x r ih =>
    intro a
    simp only [List.foldl_cons, ih, mem_insI, List.mem_cons]
    constructor
    · rintro (h | h | h) <;> simp [h]
    · rintro ((h | h) | h) <;> simp [h]
theorem rise_setI (l : List Ik) : RiseI (setI l) := by
  suffices h : ∀ (l a : List Ik), RiseI a → RiseI (l.foldl (fun a x => insI x a) a) from h l [] List.Pairwise.nil
  intro l
  induction l with
  | nil => exact fun a h => h
  | cons x r ih => exact fun a h => ih _ (rise_insI x a h)
/-- Two rising rows of the same ids are one. -/
theorem rise_ext : ∀ {a b : List Ik}, RiseI a → RiseI b → (∀ z, z ∈ a ↔ z ∈ b) → a = b
  | [], [], _, _, _ => rfl
  | [], y :: r, _, _, h => absurd ((h y).2 (by simp)) (by simp)
  | x :: s, [], _, _, h => absurd ((h x).1 (by simp)) (by simp)
  | x :: s, y :: r, ha, hb, h => by
    obtain ⟨h1, h2⟩ := List.pairwise_cons.1 ha
    obtain ⟨h3, h4⟩ := List.pairwise_cons.1 hb
    have hxy : x = y := by
      rcases List.mem_cons.1 ((h x).1 (by simp)) with e | hx
      · exact e
      · rcases List.mem_cons.1 ((h y).2 (by simp)) with e | hy
        · exact e.symm
        · exact absurd (i_trans (h3 x hx) (h1 y hy)) (i_irrefl y)
    subst hxy
    rw [rise_ext h2 h4 fun z => ?_]
    constructor
    · intro hz
      rcases List.mem_cons.1 ((h z).1 (List.mem_cons_of_mem _ hz)) with e | hz2
      · subst e; exact absurd (h1 z hz) (i_irrefl z)
      · exact hz2
    · intro hz
      rcases List.mem_cons.1 ((h z).2 (List.mem_cons_of_mem _ hz)) with e | hz2
      · subst e; exact absurd (h3 z hz) (i_irrefl z)
      · exact hz2
theorem insI_in {x : Ik} {l : List Ik} (hr : RiseI l) (h : x ∈ l) : insI x l = l := rise_ext (rise_insI x l hr) hr fun z => by rw [mem_insI]; constructor; (rintro (rfl | h2); exact h; exact h2); exact fun h2 => .inr h2
/-- Where an id goes into a set: behind k ids below it. -/
theorem insI_at (x : Ik) : ∀ (l : List Ik) (k : Nat), k ≤ l.length → (∀ j (h : j < l.length), j < k → ltI l[j] x) →
    (∀ h : k < l.length, ¬ ltI l[k] x) → insI x l = if h : k < l.length then (if l[k] = x then l else l.take k ++ x :: l.drop k) else l ++ [x]
  | [], k, hk, _, _ => by simp at hk; subst hk; simp [insI]
  | y :: r, 0, _, _, h => by
    have h0 : ¬ ltI y x := h (by simp)
    simp only [insI, h0, if_false]
    simp
  | y :: r, k + 1, hk, h1, h2 => by
    have hy : ltI y x := h1 0 (by simp) (by omega)
    simp only [insI, hy, if_true]
    rw [insI_at x r k (by simpa using hk) (fun j h hj => h1 (j + 1) (by simpa using h) (by omega)) (fun h => h2 (by simpa using h))]
    by_cases hkl : k < r.length
    · simp only [hkl, dif_pos, List.length_cons, Nat.add_lt_add_iff_right, List.getElem_cons_succ]
      split <;> simp
    · simp [hkl]
theorem insI_new {x : Ik} {l : List Ik} {k : Nat} (hk : k ≤ l.length) (h1 : ∀ j (h : j < l.length), j < k → ltI l[j] x) (h2 : ∀ h : k < l.length, ¬ ltI l[k] x) (hn : x ∉ l) : insI x l = l.take k ++ x :: l.drop k := by
  rw [insI_at x l k hk h1 h2]
  by_cases h : k < l.length
  · rw [dif_pos h, if_neg fun (e : l[k] = x) => hn (by rw [← e]; exact List.getElem_mem h)]
  · rw [dif_neg h]
    obtain rfl : k = l.length := by omega
    simp
theorem insI_len (x : Ik) : ∀ l, (insI x l).length ≤ l.length + 1
  | [] => by simp [insI]
  | y :: r => by
    have := insI_len x r
    unfold insI
    split
    · simp; omega
    · split <;> simp
theorem setI_len (l : List Ik) : (setI l).length ≤ l.length := by
  suffices h : ∀ (l a : List Ik), (l.foldl (fun a x => insI x a) a).length ≤ l.length + a.length by simpa [setI] using h l []
  intro l
  induction l with
  | nil => simp
  | cons x r ih =>
    intro a
    have h1 := ih (insI x a)
    have h2 := insI_len x a
    simp only [List.foldl_cons, List.length_cons]
    omega
/-- A patch's ids, one behind the other. -/
def rowI (p : List UInt8) (first n : Int) : List Ik := if 0 ≤ first ∧ 1 ≤ n ∧ n ≤ 2000 then (List.range n.toNat).map fun (i : Nat) => (p, first + (i : Int)) else []

/-- Decimal digits. -/
def digits (n : Nat) : List UInt8 := if h : n < 10 then [48 + UInt8.ofNat n] else digits (n / 10) ++ [48 + UInt8.ofNat (n % 10)]
termination_by n
decreasing_by omega
theorem digits_ne (n : Nat) : digits n ≠ [] := by
  unfold digits
  split <;> simp
/-- May it be? -/
def okI (right : List UInt8 → Bool) (x : Ik) : Bool := if x.1 = [] then decide (0 ≤ x.2 ∧ x.2 ≤ 2) else right x.1 && decide (0 ≤ x.2 ∧ x.2 ≤ 1048576)
def textI (right : List UInt8 → Bool) (x : Ik) : List UInt8 := if okI right x then x.1 ++ 35 :: digits x.2.toNat else []
end Go.Proofs.YtoajckhfnadhjaaGreatDoor
namespace Go.Proofs.YtoajckhfnadhjaaGreatDoor
open Go.RowKit
set_option linter.unusedVariables false

/-- An id as it lies: its patch, its number. -/
structure Im where
  p : ByteArray
  n : Int
deriving DecidableEq
def Im.key (x : Im) : Ik := (x.p.data.toList, x.n)
def Im.val (x : Im) : Value := .agg #[.string x.p, .int .i64 x.n]
/-- Its text and its number are what Go may hold. -/
def Im.Ok (x : Im) : Prop := x.p.size ≤ 9223372036854775807 ∧ -9223372036854775808 ≤ x.n ∧ x.n ≤ 9223372036854775807
theorem Im.key_inj {x y : Im} (h : x.key = y.key) : x = y := by
  obtain ⟨p, n⟩ := x
  obtain ⟨q, m⟩ := y
  simp only [Im.key, Prod.mk.injEq] at h
  obtain ⟨h1, rfl⟩ := h
  rw [bytes_inj h1]
def ikeys (l : List Im) : List Ik := l.map Im.key
theorem ikeys_len (l : List Im) : (ikeys l).length = l.length := by simp [ikeys]
theorem ikeys_get (l : List Im) (j : Nat) (h : j < (ikeys l).length) : (ikeys l)[j] = (l[j]'(by rw [ikeys_len] at h; exact h)).key := by simp [ikeys]
theorem ikeys_inj {a b : List Im} (h : ikeys a = ikeys b) : a = b := List.map_inj_right (fun _ _ => Im.key_inj) |>.1 h
theorem mem_ikeys {x : Im} {l : List Im} : x.key ∈ ikeys l ↔ x ∈ l := by
  unfold ikeys
  rw [List.mem_map]
  exact ⟨fun ⟨y, hy, e⟩ => by rw [← Im.key_inj e]; exact hy, fun h => ⟨x, h, rfl⟩⟩
def imOf (k : Ik) : Im := ⟨toB k.1, k.2⟩
theorem imOf_key (k : Ik) : (imOf k).key = k := by simp [imOf, Im.key, of_toB]
theorem key_imOf (x : Im) : imOf x.key = x := Im.key_inj (imOf_key _)

/-- Ids as records of two cells. -/
def idR : Rk Im where
  ty := 40
  tys := 38
  k := 2
  bytes := 24
  zero := .agg #[.string ByteArray.empty, .int .i64 0]
  enc := fun x => [.string x.p, .int .i64 x.n]
  len := fun _ => rfl
  one := fun x u hu => by
    simp only [List.mem_cons, List.not_mem_nil, or_false] at hu
    rcases hu with rfl | rfl <;> rfl
  pos := by decide
  small := by decide
  zsz := rfl
  info := by kernel_rfl
  und := Tryz.underlying38
abbrev Ids (w : World) (B : Nat) (A : Option Addr) (l : List Im) : Prop := idR.Row w B A l
abbrev OwnId (w : World) (B : Nat) (v : Value) (l : List Im) : Prop := idR.Own w B v l
abbrev IdAt (w : World) (g : Nat) (x : Im) : Prop := idR.At w g x
theorem ids_get {w : World} {B : Nat} {A : Option Addr} {l : List Im} (h : Ids w B A l) {j : Nat} (hj : j < l.length) : ∃ b off, A = some ⟨b, off, none⟩ ∧ b < B ∧ w.cell? ⟨b, off + j * 2, none⟩ = some (.string l[j].p) ∧ w.cell? ⟨b, off + j * 2 + 1, none⟩ = some (.int .i64 l[j].n) := by
  obtain ⟨b, off, e, hlt, hc⟩ := h.get hj
  exact ⟨b, off, e, hlt, hc 0 _ rfl, hc 1 _ rfl⟩
theorem id_c0 {w : World} {g : Nat} {x : Im} (h : IdAt w g x) : w.cell? ⟨g, 0, none⟩ = some (.string x.p) := h.cell (r := 0) rfl
theorem id_c1 {w : World} {g : Nat} {x : Im} (h : IdAt w g x) : w.cell? ⟨g, 1, none⟩ = some (.int .i64 x.n) := h.cell (r := 1) rfl
theorem id_new (w : World) (p : ByteArray) (n : Int) : IdAt (w.alloc (.cells #[.string p, .int .i64 n] 40)) w.heap.size ⟨p, n⟩ := Rk.At.new_ w (⟨p, n⟩ : Im)
theorem id_box (w : World) (x : Im) : Below w.heap.size w (w.alloc (.cells #[.string x.p, .int .i64 x.n] 40)) ∧ IdAt (w.alloc (.cells #[.string x.p, .int .i64 x.n] 40)) w.heap.size x := ⟨(Below.refl _ _).alloc (Nat.le_refl _) _, id_new w x.p x.n⟩
theorem id_box2 (w : World) (x y : Im) : Below w.heap.size w ((w.alloc (.cells #[.string x.p, .int .i64 x.n] 40)).alloc (.cells #[.string y.p, .int .i64 y.n] 40)) ∧
    IdAt ((w.alloc (.cells #[.string x.p, .int .i64 x.n] 40)).alloc (.cells #[.string y.p, .int .i64 y.n] 40)) w.heap.size x ∧ IdAt ((w.alloc (.cells #[.string x.p, .int .i64 x.n] 40)).alloc (.cells #[.string y.p, .int .i64 y.n] 40)) (w.heap.size + 1) y := by
  obtain ⟨b1, h1⟩ := id_box w x
  obtain ⟨b2, h2⟩ := id_box (w.alloc (.cells #[.string x.p, .int .i64 x.n] 40)) y
  refine ⟨b1.trans (b2.mono b1.size), h1.on b2, ?_⟩
  have e : (w.alloc (.cells #[.string x.p, .int .i64 x.n] 40)).heap.size = w.heap.size + 1 := by simp
  rw [e] at h2
  exact h2
end Go.Proofs.YtoajckhfnadhjaaGreatDoor
namespace Go.Proofs.YtoajckhfnadhjaaGreatDoor
open Go.RowKit
set_option linter.unusedVariables false

theorem str_ne {s t : ByteArray} (h : s ≠ t) : (s.toList == t.toList) = false := by
  rw [beq_eq_false_iff_ne]
  intro e
  rw [toList_eq, toList_eq] at e
  exact h (bytes_inj e)
theorem str_ne_empty {s : ByteArray} (h : s ≠ ⟨#[]⟩) : (s.toList == []) = false := by
  rw [beq_eq_false_iff_ne]
  intro e
  rw [toList_eq] at e
  exact h (bytes_inj e)
theorem str_eqb (s : ByteArray) : (s.toList == s.toList) = true := by simp
theorem toB_size (l : List UInt8) : (toB l).size = l.length := by simp [toB, ByteArray.size]
end Go.Proofs.YtoajckhfnadhjaaGreatDoor
namespace Go.Proofs.YtoajckhfnadhjaaGreatDoor
open Go.RowKit
set_option linter.unusedVariables false

theorem im_eqb (x y : Im) : decide (x = y) = ((x.p.toList == y.p.toList) && (x.n == y.n)) := by
  by_cases h : x = y
  · subst h
    simp
  · rw [decide_eq_false h]
    by_cases h2 : x.p = y.p
    · have h3 : x.n ≠ y.n := fun e => h (by obtain ⟨p, n⟩ := x; obtain ⟨q, m⟩ := y; simp_all)
      simp [h3]
    · rw [str_ne h2]
      rfl
set_option maxRecDepth 100000 in
theorem eql_id (x y : Im) (w : World) : (binOp .eql 40 (.agg #[.string x.p, .int .i64 x.n]) (.agg #[.string y.p, .int .i64 y.n])).run Tryz.prog w = .ok (.bool (decide (x = y))) w := by
  rw [run_eql_struct, im_eqb]
  cases h1 : (x.p.toList == y.p.toList) <;> cases h2 : (x.n == y.n) <;> simp [go_sem, h1, h2]
set_option maxRecDepth 100000 in
theorem neq_id (x y : Im) (w : World) : (binOp .neq 40 (.agg #[.string x.p, .int .i64 x.n]) (.agg #[.string y.p, .int .i64 y.n])).run Tryz.prog w = .ok (.bool (!decide (x = y))) w := by
  rw [run_neq_struct, im_eqb]
  cases h1 : (x.p.toList == y.p.toList) <;> cases h2 : (x.n == y.n) <;> simp [go_sem, h1, h2]
end Go.Proofs.YtoajckhfnadhjaaGreatDoor
namespace Go.Proofs.YtoajckhfnadhjaaGreatDoor
open Go.RowKit
set_option linter.unusedVariables false

def nameL : ByteArray := ⟨#[97, 98, 99, 100, 101, 102, 103, 104, 105, 106, 107, 108, 109, 110, 111, 112, 113, 114, 115, 116, 117, 118, 119, 120, 121, 122, 48, 49, 50, 51, 52, 53, 54, 55, 56, 57, 46, 95, 45]⟩
/-- Is each byte of a text one of these letters? -/
def allIn (L s : ByteArray) : Bool := s.data.toList.all fun c => L.data.toList.contains c
theorem indexByte_neg (c : UInt8) : ∀ l, Lib.indexByte l c < 0 ↔ l.contains c = false
  | [] => by simp [Lib.indexByte]
  | b :: l => by
    have ih := indexByte_neg c l
    have hg := Lib.indexByte_ge l c
    unfold Lib.indexByte
    by_cases h : b = c
    · subst h; simp
    · have h1 : (b == c) = false := by simpa using h
      have h2 : (c == b) = false := by simpa using fun e => h e.symm
      rw [List.contains_cons, h1, h2]
      simp only [Bool.false_eq_true, if_false, Bool.false_or]
      rw [← ih]
      split
      · rename_i h3
        have : Lib.indexByte l c = -1 := by simpa using h3
        omega
      · rename_i h3
        have : Lib.indexByte l c ≠ -1 := by simpa using h3
        omega
theorem allIn_no {L s : ByteArray} {k : Nat} (hk : k < s.size) (h : L.data.toList.contains s[k] = false) : allIn L s = false := by
  have : ¬ (s.data.toList.all fun c => L.data.toList.contains c) = true := by
    rw [List.all_eq_true]
    intro ha
    have := ha s[k] (by rw [show s[k] = s.data.toList[k]'(by simpa using hk) from rfl]; exact List.getElem_mem _)
    rw [h] at this
    cases this
  simpa [allIn] using this
theorem allIn_yes {L s : ByteArray} (h : ∀ k (hk : k < s.size), L.data.toList.contains s[k] = true) : allIn L s = true := by
  unfold allIn
  rw [List.all_eq_true]
  intro c hc
  obtain ⟨k, hk, rfl⟩ := List.getElem_of_mem hc
  exact h k (by simpa using hk)

set_option maxRecDepth 100000 in
theorem madeOf1_any (B : Nat) (L s : ByteArray) (w : World) (hB : B < w.heap.size) (hc : w.cell? ⟨B, 0, none⟩ = some (.string L)) (hs : s.size ≤ 9223372036854775807) :
    Calls Tryz.prog 116 #[.string s, .pointer (some ⟨B, 0, none⟩)] w fun e w' => e = .returned (.bool (allIn L s)) ∧ Below w.heap.size w w' := by
  go_enter Tryz.func116, Tryz.ntmps116
  go_wp2
  go_loopw [7] (fun i wr => ∃ k : Nat, k ≤ s.size ∧ i = .int .i64 (k : Int) ∧ Hid (∀ j (hj : j < s.size), j < k → L.data.toList.contains s[j] = true) ∧ Below w.heap.size w wr) (fun i _ => s.size - (intOf i).toNat)
  case atStart => exact ⟨0, Nat.zero_le _, rfl, fun j _ h => absurd h (by omega), Below.refl _ _⟩
  case round =>
    obtain ⟨k, hk, rfl, hall, hb⟩ := hrel
    have hcr : wr.cell? ⟨B, 0, none⟩ = some (.string L) := (hb.cell (p := ⟨B, 0, none⟩) hB).trans hc
    by_cases hlt : k < s.size
    · have hx : ∀ W, Calls Tryz.prog 117 #[.string L, .int .u8 (s[k].toNat : Int)] W fun e w' => e = .returned (.int .i64 (Lib.indexByte L.data.toList s[k])) ∧ w' = W := fun W => by
        have h := Tryz.strings_IndexByte L (s[k].toNat : Int) W
        simpa using h
      by_cases hin : L.data.toList.contains s[k] = true
      · have hneg : ¬ Lib.indexByte L.data.toList s[k] < 0 := by
          rw [indexByte_neg, hin]; simp
        have hyes : Hid (∀ j (hj : j < s.size), j < k + 1 → L.data.toList.contains s[j] = true) := by
          intro j hj hjk
          by_cases hjk2 : j = k
          · subst hjk2; exact hin
          · exact hall.out j hj (by omega)
        clear hall hin
        generalize Lib.indexByte L.data.toList s[k] = x at *
        go_wp2
        go_quiet (first | (go_at_call 117; refine Calls.quiet_of_same (hx _)))
        go_wp2
        go_roundw
        case rel => exact ⟨k + 1, by omega, by go_num, hyes, below_drewN hb _⟩
        case measure => simp [intOf]; omega
      · have hin2 : L.data.toList.contains s[k] = false := by simpa using hin
        have hneg : Lib.indexByte L.data.toList s[k] < 0 := (indexByte_neg _ _).2 hin2
        have hno := Lib.hid (allIn_no hlt hin2)
        clear hall hin hin2
        generalize Lib.indexByte L.data.toList s[k] = x at *
        go_wp2
        go_quiet (first | (go_at_call 117; refine Calls.quiet_of_same (hx _)))
        go_wp2
        go_ret
        rw [hno.out]
        exact ⟨rfl, below_drewN hb _⟩
    · have hk2 : k = s.size := by omega
      subst hk2
      have hyes := Lib.hid (allIn_yes fun j hj => hall.out j hj hj)
      clear hall
      go_wp2
      go_ret
      rw [hyes.out]
      exact ⟨rfl, hb⟩

/-- Is a text a name? -/
def rightB (s : ByteArray) : Bool := decide (1 ≤ s.size) && decide (s.size ≤ 40) && decide (s ≠ ⟨#[46]⟩) && decide (s ≠ ⟨#[46, 46]⟩) && allIn nameL s
theorem rightB_full {s : ByteArray} (h1 : 1 ≤ s.size) (h2 : s.size ≤ 40) (h3 : s ≠ ⟨#[46]⟩) (h4 : s ≠ ⟨#[46, 46]⟩) : rightB s = allIn nameL s := by
  simp [rightB, h1, h2, h3, h4]
theorem ne_toList {s : ByteArray} {l : List UInt8} (h : s ≠ ⟨l.toArray⟩) : ¬ s.toList = l := by
  intro e
  rw [toList_eq] at e
  exact h (bytes_inj (by rw [e]))
theorem ne_beq {s : ByteArray} {l : List UInt8} (h : s ≠ ⟨l.toArray⟩) : (s.toList == l) = false := by
  rw [beq_eq_false_iff_ne]
  exact ne_toList h

/-- What madeOf leaves: a function that asks the letters. -/
theorem madeOf_any (L : ByteArray) (w : World) :
    Calls Tryz.prog 93 #[.string L] w fun e w' => e = .returned (.func (.func 116) #[] #[.pointer (some ⟨w.heap.size, 0, none⟩)]) ∧ w' = w.alloc (.cells #[.string L] 9) := by
  go_enter Tryz.func93, Tryz.ntmps93
  go_wp2
  go_ret
  exact ⟨rfl, rfl⟩

set_option maxRecDepth 100000 in
theorem right_any (s : ByteArray) (w : World) (hs : s.size ≤ 9223372036854775807) :
    Calls Tryz.prog 64 #[.string s] w fun e w' => e = .returned (.bool (rightB s)) ∧ Below w.heap.size w w' := by
  by_cases h1 : s.size < 1
  · have hr : rightB s = false := by simp [rightB]; omega
    rw [hr]
    go_enter Tryz.func64, Tryz.ntmps64
    go_wp2
    go_ret
    exact ⟨rfl, Below.refl _ _⟩
  · by_cases h2 : 40 < s.size
    · have hr : rightB s = false := by simp [rightB]; omega
      rw [hr]
      go_enter Tryz.func64, Tryz.ntmps64
      go_wp2
      go_ret
      exact ⟨rfl, Below.refl _ _⟩
    · by_cases h3 : s = ⟨#[46]⟩
      · subst h3
        have hr : rightB ⟨#[46]⟩ = false := by decide
        rw [hr]
        go_enter Tryz.func64, Tryz.ntmps64
        go_wp2
        go_ret
        exact ⟨rfl, Below.refl _ _⟩
      · by_cases h4 : s = ⟨#[46, 46]⟩
        · subst h4
          have hr : rightB ⟨#[46, 46]⟩ = false := by decide
          rw [hr]
          go_enter Tryz.func64, Tryz.ntmps64
          go_wp2
          go_ret
          exact ⟨rfl, Below.refl _ _⟩
        · rw [rightB_full (by omega) (by omega) h3 h4]
          have e3 := ne_toList (l := [46]) h3
          have e4 := ne_toList (l := [46, 46]) h4
          have b3 := ne_beq (l := [46]) h3
          have b4 := ne_beq (l := [46, 46]) h4
          have hc := madeOf1_any w.heap.size nameL s (w.alloc (.cells #[.string nameL] 9)) (by simp) (by rw [World.cell?_alloc_new]; rfl) hs
          have hm := madeOf_any nameL w
          unfold nameL at hm hc
          obtain ⟨r, hr⟩ : ∃ r, Hid (allIn nameL s = r) := ⟨_, rfl⟩
          rw [show allIn ⟨#[97, 98, 99, 100, 101, 102, 103, 104, 105, 106, 107, 108, 109, 110, 111, 112, 113, 114, 115, 116, 117, 118, 119, 120, 121, 122, 48, 49, 50, 51, 52, 53, 54, 55, 56, 57, 46, 95, 45]⟩ s = r from hr.out] at hc
          rw [hr.out]
          clear h3 h4
          go_enter Tryz.func64, Tryz.ntmps64
          go_wp2_with (first
            | (go_at_call 93; refine hm.mono ?_; rintro e w1 ⟨rfl, rfl⟩)
            | (go_at_call 116; refine hc.mono ?_; rintro e w2 ⟨rfl, hb2⟩))
          go_ret
          exact ⟨rfl, ((Below.refl _ w).alloc (Nat.le_refl _) _).trans (hb2.mono (by simp))⟩

end Go.Proofs.YtoajckhfnadhjaaGreatDoor
namespace Go.Proofs.YtoajckhfnadhjaaGreatDoor
open Go.RowKit
set_option linter.unusedVariables false

theorem digits_lt {n : Nat} (h : n < 10) : digits n = [48 + UInt8.ofNat n] := by
  unfold digits
  rw [dif_pos h]
theorem digits_ge {n : Nat} (h : ¬ n < 10) : digits n = digits (n / 10) ++ [48 + UInt8.ofNat (n % 10)] := by
  rw [digits, dif_neg h]
theorem digits_len (n : Nat) : (digits n).length ≤ n + 1 := by
  induction n using Nat.strongRecOn with
  | _ n ih =>
    by_cases h : n < 10
    · rw [digits_lt h]
      simp
    · rw [digits_ge h, List.length_append]
      have := ih (n / 10) (by omega)
      simp only [List.length_cons, List.length_nil]
      omega
theorem toB_app (a b : List UInt8) : toB a ++ toB b = toB (a ++ b) := by
  apply bytes_inj
  simp [toB]
end Go.Proofs.YtoajckhfnadhjaaGreatDoor
namespace Go.Proofs.YtoajckhfnadhjaaGreatDoor
open Go.RowKit
set_option linter.unusedVariables false

def okK (k : Ik) : Bool := okI (fun l => rightB (toB l)) k
def textK (k : Ik) : List UInt8 := textI (fun l => rightB (toB l)) k
theorem digit_val (d : Nat) (h : d < 10) : (48 + UInt8.ofNat d : UInt8).toNat = 48 + d := by
  have hc : d = 0 ∨ d = 1 ∨ d = 2 ∨ d = 3 ∨ d = 4 ∨ d = 5 ∨ d = 6 ∨ d = 7 ∨ d = 8 ∨ d = 9 := by omega
  rcases hc with rfl | rfl | rfl | rfl | rfl | rfl | rfl | rfl | rfl | rfl <;> rfl
theorem digits_in (n : Nat) : ∀ b ∈ digits n, 48 ≤ b.toNat ∧ b.toNat ≤ 57 := by
  induction n using Nat.strongRecOn with
  | _ n ih =>
    intro b hb
    by_cases h : n < 10
    · rw [digits_lt h] at hb
      obtain rfl : b = _ := by simpa using hb
      rw [digit_val n h]
      omega
    · rw [digits_ge h, List.mem_append] at hb
      rcases hb with hb | hb
      · exact ih (n / 10) (by omega) b hb
      · obtain rfl : b = _ := by simpa using hb
        rw [digit_val _ (Nat.mod_lt _ (by omega))]
        omega
theorem digits_no (n : Nat) : (35 : UInt8) ∉ digits n := fun h => by
  have := (digits_in n _ h).1
  revert this
  decide
/-- The number that digits tell. -/
def valD (l : List UInt8) : Nat := l.foldl (fun a b => a * 10 + (b.toNat - 48)) 0
theorem valD_digits (n : Nat) : valD (digits n) = n := by
  induction n using Nat.strongRecOn with
  | _ n ih =>
    by_cases h : n < 10
    · rw [digits_lt h]
      simp only [valD, List.foldl_cons, List.foldl_nil]
      rw [digit_val n h]
      omega
    · rw [digits_ge h]
      have hi := ih (n / 10) (by omega)
      unfold valD at hi ⊢
      rw [List.foldl_append, hi]
      simp only [List.foldl_cons, List.foldl_nil]
      rw [digit_val _ (Nat.mod_lt _ (by omega))]
      omega
theorem digits_inj {n m : Nat} (h : digits n = digits m) : n = m := by rw [← valD_digits n, h, valD_digits]
theorem cut_inj {p q ds es : List UInt8} (hd : (35 : UInt8) ∉ ds) (he : (35 : UInt8) ∉ es) (h : p ++ 35 :: ds = q ++ 35 :: es) : p = q ∧ ds = es := by
  rcases List.append_eq_append_iff.1 h with ⟨a, e1, e2⟩ | ⟨a, e1, e2⟩
  · cases a with
    | nil =>
      simp only [List.append_nil] at e1
      simp only [List.nil_append, List.cons.injEq, true_and] at e2
      exact ⟨e1.symm, e2⟩
    | cons b a =>
      simp only [List.cons_append, List.cons.injEq] at e2
      exact absurd (by rw [e2.2]; simp) hd
  · cases a with
    | nil =>
      simp only [List.append_nil] at e1
      simp only [List.nil_append, List.cons.injEq, true_and] at e2
      exact ⟨e1, e2.symm⟩
    | cons b a =>
      simp only [List.cons_append, List.cons.injEq] at e2
      exact absurd (by rw [e2.2]; simp) he
theorem okK_n {k : Ik} (h : okK k = true) : 0 ≤ k.2 ∧ k.2 ≤ 1048576 := by
  unfold okK okI at h
  split at h
  · have := of_decide_eq_true h
    omega
  · exact of_decide_eq_true (Bool.and_eq_true_iff.1 h).2
theorem textK_ok {k : Ik} (h : okK k = true) : textK k = k.1 ++ 35 :: digits k.2.toNat := by
  unfold textK textI
  rw [if_pos (show okI (fun l => rightB (toB l)) k = true from h)]
theorem textK_no {k : Ik} (h : okK k = false) : textK k = [] := by
  unfold textK textI
  rw [if_neg (by rw [show okI (fun l => rightB (toB l)) k = false from h]; simp)]
theorem textK_inj {k m : Ik} (hk : okK k = true) (hm : okK m = true) (h : textK k = textK m) : k = m := by
  rw [textK_ok hk, textK_ok hm] at h
  obtain ⟨h1, h2⟩ := cut_inj (digits_no _) (digits_no _) h
  have h3 := digits_inj h2
  have a := okK_n hk
  have b := okK_n hm
  exact Prod.ext h1 (by omega)
/-- What Parse is to tell. -/
def ParseK (s : List UInt8) (z : Ik) (er : Int) : Prop := (er = 0 ∧ okK z = true ∧ textK z = s) ∨ (er = 6 ∧ z = ([], 0) ∧ ∀ k, okK k = true → textK k ≠ s)
end Go.Proofs.YtoajckhfnadhjaaGreatDoor
namespace Go.Proofs.YtoajckhfnadhjaaGreatDoor

/-- A number's bytes, with fuel: seven bits a byte, the lowest first. -/
def numF : Nat → Nat → List UInt8
  | 0, n => [UInt8.ofNat n]
  | f + 1, n => if n < 128 then [UInt8.ofNat n] else UInt8.ofNat (128 + n % 128) :: numF f (n / 128)
def numB (n : Nat) : List UInt8 := numF 9 n

theorem numF_lt (f n : Nat) (h : n < 128) : numF f n = [UInt8.ofNat n] := by
  cases f with
  | zero => rfl
  | succ f => simp [numF, h]
theorem numF_ge (f n : Nat) (h : 128 ≤ n) : numF (f + 1) n = UInt8.ofNat (128 + n % 128) :: numF f (n / 128) := by
  simp [numF, Nat.not_lt.2 h]
theorem numF_len : ∀ (f n : Nat), (numF f n).length ≤ f + 1
  | 0, n => by simp [numF]
  | f + 1, n => by
    unfold numF
    split
    · simp
    · simp; exact numF_len f (n / 128)
theorem numB_len (n : Nat) : (numB n).length ≤ 10 := numF_len 9 n
theorem numF_pos (f n : Nat) : 0 < (numF f n).length := by
  cases f with
  | zero => simp [numF]
  | succ f => unfold numF; split <;> simp
theorem div_pow (n f : Nat) (h : n < 128 ^ (f + 2)) : n / 128 < 128 ^ (f + 1) := by
  rw [Nat.div_lt_iff_lt_mul (by omega)]; rw [Nat.pow_succ] at h; exact h
theorem u64_pow (n : Nat) (h : n < 18446744073709551616) : n < 128 ^ (9 + 1) := by
  have : (128 : Nat) ^ (9 + 1) = 1180591620717411303424 := by decide
  omega
theorem toNat_lo (n : Nat) (h : n < 128) : ((UInt8.ofNat n).toNat : Int) = n := by
  simp [UInt8.toNat_ofNat']; omega
theorem toNat_hi (n : Nat) : ((UInt8.ofNat (128 + n % 128)).toNat : Int) = 128 + (n : Int) % 128 := by
  rw [UInt8.toNat_ofNat']; omega
/-- The list of a list's bytes. -/
def textB (s : List UInt8) : List UInt8 := numB s.length ++ s
def textsB : List (List UInt8) → List UInt8
  | [] => []
  | s :: l => textB s ++ textsB l
def listB (l : List (List UInt8)) : List UInt8 := numB l.length ++ textsB l
theorem textsB_append : ∀ (a b : List (List UInt8)), textsB (a ++ b) = textsB a ++ textsB b
  | [], b => rfl
  | x :: a, b => by simp [textsB, textsB_append a b]
theorem textsB_snoc (a : List (List UInt8)) (x : List UInt8) : textsB (a ++ [x]) = textsB a ++ textB x := by
  rw [textsB_append]; simp [textsB]
end Go.Proofs.YtoajckhfnadhjaaGreatDoor
namespace Go.Proofs.YtoajckhfnadhjaaGreatDoor

/-- Where the number that a list begins with ends: behind the first byte below 128. -/
def numEnd : List UInt8 → Option Nat
  | [] => none
  | b :: l => if b.toNat < 128 then some 1 else (numEnd l).map (· + 1)
/-- The value of a number's bytes, the last one first; too great: none. -/
def valR : List UInt8 → Nat → Option Nat
  | [], n => some n
  | b :: l, n => if n < 144115188075855872 then valR l (n * 128 + b.toNat % 128) else none
/-- The number that bytes are: none, if nobody lays it so. -/
def numVal (l : List UInt8) : Option Nat := if 1 < l.length ∧ l.getLast? = some 0 then none else valR l.reverse 0
/-- What a reader's Num makes of what is left: the number, the error, what is left behind it. -/
def rNum (l : List UInt8) : Nat × Int × List UInt8 :=
  match numEnd l with
  | none => (0, 5, [])
  | some e => match numVal (l.take e) with
    | none => (0, 6, [])
    | some n => (n, 0, l.drop e)
/-- .. its count .. -/
def rCount (l : List UInt8) : Nat × Int × List UInt8 :=
  if (rNum l).2.1 ≠ 0 then (0, (rNum l).2.1, []) else if (rNum l).2.2.length < (rNum l).1 then (0, 5, []) else rNum l
/-- .. its Text .. -/
def rText (l : List UInt8) : List UInt8 × Int × List UInt8 :=
  if (rCount l).2.1 ≠ 0 then ([], (rCount l).2.1, []) else ((rCount l).2.2.take (rCount l).1, 0, (rCount l).2.2.drop (rCount l).1)
/-- .. n texts .. -/
def rTexts : Nat → List UInt8 → List (List UInt8) × Int × List UInt8
  | 0, l => ([], 0, l)
  | n + 1, l => if (rText l).2.1 ≠ 0 then ([], (rText l).2.1, []) else
    if (rTexts n (rText l).2.2).2.1 ≠ 0 then ([], (rTexts n (rText l).2.2).2.1, []) else ((rText l).1 :: (rTexts n (rText l).2.2).1, 0, (rTexts n (rText l).2.2).2.2)
/-- .. its List. -/
def rList (l : List UInt8) : List (List UInt8) × Int × List UInt8 :=
  if (rCount l).2.1 ≠ 0 then ([], (rCount l).2.1, []) else rTexts (rCount l).1 (rCount l).2.2

theorem numEnd_pos : ∀ (l : List UInt8) (e : Nat), numEnd l = some e → 0 < e ∧ e ≤ l.length
  | [], e, h => by simp [numEnd] at h
  | b :: l, e, h => by
    unfold numEnd at h
    split at h
    · simp at h; subst h; simp
    · rw [Option.map_eq_some_iff] at h
      obtain ⟨e', h', rfl⟩ := h
      have := numEnd_pos l e' h'
      simp; omega
theorem numEnd_hit (l : List UInt8) (k : Nat) (hk : k < l.length) (hb : l[k].toNat < 128) (hall : ∀ j (hj : j < l.length), j < k → ¬ l[j].toNat < 128) : numEnd l = some (k + 1) := by
  induction l generalizing k with
  | nil => simp at hk
  | cons b l ih =>
    unfold numEnd
    cases k with
    | zero => simp at hb; simp [hb]
    | succ k =>
      have h0 : ¬ b.toNat < 128 := hall 0 (by simp) (by omega)
      rw [if_neg h0, ih k (by simpa using hk) (by simpa using hb) (fun j hj hjk => by have := hall (j + 1) (by simpa using hj) (by omega); rwa [List.getElem_cons_succ] at this)]
      rfl
theorem numEnd_miss (l : List UInt8) (hall : ∀ j (hj : j < l.length), ¬ l[j].toNat < 128) : numEnd l = none := by
  induction l with
  | nil => rfl
  | cons b l ih =>
    unfold numEnd
    have h0 : ¬ b.toNat < 128 := hall 0 (by simp)
    rw [if_neg h0, ih (fun j hj => by have := hall (j + 1) (by simpa using hj); rwa [List.getElem_cons_succ] at this)]
    rfl
theorem valR_snoc : ∀ (l : List UInt8) (b : UInt8) (n : Nat), valR (l ++ [b]) n = (valR l n).bind fun m => valR [b] m
  | [], b, n => by simp [valR]
  | x :: l, b, n => by
    simp only [List.cons_append, valR]
    split
    · exact valR_snoc l b _
    · rfl
/-- What was laid as a number is read as it, whatever stands behind it. -/
theorem numEnd_numF : ∀ (f n : Nat) (r : List UInt8), n < 128 ^ (f + 1) → numEnd (numF f n ++ r) = some (numF f n).length
  | 0, n, r, h => by
    have h' : n < 128 := by simpa using h
    have e : (UInt8.ofNat n).toNat = n := by have := toNat_lo n h'; omega
    simp [numF, numEnd, e, h']
  | f + 1, n, r, h => by
    by_cases hn : n < 128
    · have e : (UInt8.ofNat n).toNat = n := by have := toNat_lo n hn; omega
      rw [numF_lt _ n hn]
      simp [numEnd, e, hn]
    · have e : (UInt8.ofNat (128 + n % 128)).toNat = 128 + n % 128 := by have := toNat_hi n; omega
      rw [numF_ge f n (by omega)]
      simp only [List.cons_append, numEnd, e]
      rw [if_neg (by omega), numEnd_numF f (n / 128) r (div_pow n f h)]
      simp
theorem numF_last : ∀ (f n : Nat), n < 128 ^ (f + 1) → 1 < (numF f n).length → (numF f n).getLast? ≠ some 0
  | 0, n, h, hl => by simp [numF] at hl
  | f + 1, n, h, hl => by
    by_cases hn : n < 128
    · rw [numF_lt _ n hn] at hl; simp at hl
    · rw [numF_ge f n (by omega)]
      by_cases hl2 : 1 < (numF f (n / 128)).length
      · have := numF_last f (n / 128) (div_pow n f h) hl2
        rw [List.getLast?_cons_of_ne_nil (by intro h0; rw [h0] at hl2; simp at hl2)]
        exact this
      · have hp := numF_pos f (n / 128)
        have h128 : n / 128 < 128 := by
          rcases Nat.lt_or_ge (n / 128) 128 with h2 | h2
          · exact h2
          · exfalso
            cases f with
            | zero => simp at h; omega
            | succ g =>
              rw [numF_ge g (n / 128) h2] at hl2
              have := numF_pos g (n / 128 / 128)
              simp at hl2
              rw [hl2] at this
              simp at this
        rw [numF_lt f _ h128]
        simp
        intro h0
        have e := toNat_lo (n / 128) h128
        rw [h0] at e
        simp at e
        omega
theorem valR_numF : ∀ (f n : Nat), n < 128 ^ (f + 1) → n < 18446744073709551616 → valR (numF f n).reverse 0 = some n
  | 0, n, h, _ => by
    have h' : n < 128 := by simpa using h
    have e : (UInt8.ofNat n).toNat = n := by have := toNat_lo n h'; omega
    simp [numF, valR, e]; omega
  | f + 1, n, h, hn64 => by
    by_cases hn : n < 128
    · have e : (UInt8.ofNat n).toNat = n := by have := toNat_lo n hn; omega
      rw [numF_lt _ n hn]
      simp [valR, e]; omega
    · have e : (UInt8.ofNat (128 + n % 128)).toNat = 128 + n % 128 := by have := toNat_hi n; omega
      rw [numF_ge f n (by omega), List.reverse_cons, valR_snoc, valR_numF f (n / 128) (div_pow n f h) (by omega)]
      simp only [Option.bind_some, valR, e]
      rw [if_pos (by omega)]
      congr 1
      omega
theorem rNum_num (n : Nat) (r : List UInt8) (h : n < 18446744073709551616) : rNum (numB n ++ r) = (n, 0, r) := by
  have hp := u64_pow n h
  unfold rNum numB
  rw [numEnd_numF 9 n r hp]
  simp only [List.take_left, List.drop_left]
  have : numVal (numF 9 n) = some n := by
    unfold numVal
    rw [if_neg (fun h2 => numF_last 9 n hp h2.1 h2.2), valR_numF 9 n hp h]
  rw [this]
theorem rText_text (s r : List UInt8) (h : s.length < 18446744073709551616) : rText (textB s ++ r) = (s, 0, r) := by
  have hn := rNum_num s.length (s ++ r) h
  have hc : rCount (textB s ++ r) = (s.length, 0, s ++ r) := by
    unfold rCount textB
    rw [List.append_assoc, hn]
    simp
  unfold rText
  rw [hc]
  simp
theorem rTexts_texts : ∀ (l : List (List UInt8)) (r : List UInt8), (∀ s ∈ l, s.length < 18446744073709551616) → rTexts l.length (textsB l ++ r) = (l, 0, r)
  | [], r, _ => rfl
  | s :: l, r, h => by
    have h1 := rText_text s (textsB l ++ r) (h s (by simp))
    have h2 := rTexts_texts l r (fun x hx => h x (by simp [hx]))
    simp only [List.length_cons, rTexts, textsB, List.append_assoc, h1, h2]
    simp
theorem rList_list (l : List (List UInt8)) (r : List UInt8) (hl : l.length < 18446744073709551616) (h : ∀ s ∈ l, s.length < 18446744073709551616) : rList (listB l ++ r) = (l, 0, r) := by
  have hn := rNum_num l.length (textsB l ++ r) hl
  have hle : l.length ≤ (textsB l).length := by
    clear hn hl h
    induction l with
    | nil => simp
    | cons s l ih =>
      have := numF_pos 9 s.length
      simp [textsB, textB, numB]; omega
  have hc : rCount (listB l ++ r) = (l.length, 0, textsB l ++ r) := by
    unfold rCount listB
    rw [List.append_assoc, hn]
    simp
    omega
  unfold rList
  rw [hc]
  simp [rTexts_texts l r h]
theorem rNum_len (l : List UInt8) : (rNum l).2.2.length ≤ l.length := by
  unfold rNum
  split
  · simp
  · split
    · simp
    · simp
theorem rNum_err (l : List UInt8) (h : (rNum l).2.1 ≠ 0) : (rNum l).1 = 0 ∧ (rNum l).2.2 = [] := by
  unfold rNum at h ⊢
  rcases he : numEnd l with _ | e
  · simp
  · rw [he] at h
    rcases hn : numVal (l.take e) with _ | n
    · simp [hn]
    · simp [hn] at h
theorem rCount_len (l : List UInt8) : (rCount l).2.2.length ≤ l.length := by
  have := rNum_len l
  unfold rCount
  split
  · simp
  · split
    · simp
    · exact this
theorem rCount_err (l : List UInt8) (h : (rCount l).2.1 ≠ 0) : (rCount l).1 = 0 ∧ (rCount l).2.2 = [] := by
  unfold rCount at h ⊢
  split
  · simp
  · split
    · simp
    · rename_i h1 h2
      simp [h1, h2] at h
theorem rCount_le (l : List UInt8) : (rCount l).1 ≤ (rCount l).2.2.length := by
  unfold rCount
  split
  · simp
  · split
    · simp
    · omega
theorem rText_len (l : List UInt8) : (rText l).2.2.length + (rText l).1.length ≤ l.length := by
  have := rCount_len l
  have h2 := rCount_le l
  unfold rText
  split
  · simp
  · simp; omega
theorem rText_err (l : List UInt8) (h : (rText l).2.1 ≠ 0) : (rText l).1 = [] ∧ (rText l).2.2 = [] := by
  unfold rText at h ⊢
  split
  · simp
  · rename_i h1
    simp [h1] at h
/-- Texts that were read, ahead of those that are read then. -/
def preT (a : List (List UInt8)) (x : List (List UInt8) × Int × List UInt8) : List (List UInt8) × Int × List UInt8 := if x.2.1 ≠ 0 then ([], x.2.1, []) else (a ++ x.1, 0, x.2.2)
theorem rTexts_err : ∀ (n : Nat) (l : List UInt8), (rTexts n l).2.1 ≠ 0 → (rTexts n l).1 = [] ∧ (rTexts n l).2.2 = []
  | 0, l, h => by simp [rTexts] at h
  | n + 1, l, h => by
    unfold rTexts at h ⊢
    split
    · simp
    · rename_i h1
      split
      · simp
      · rename_i h2
        simp [h1, h2] at h
theorem preT_nil (n : Nat) (l : List UInt8) : preT [] (rTexts n l) = rTexts n l := by
  have := rTexts_err n l
  unfold preT
  rcases h : rTexts n l with ⟨a, e, r⟩
  rw [h] at this
  simp only at this ⊢
  by_cases h0 : e = 0
  · subst h0; simp
  · obtain ⟨rfl, rfl⟩ := this h0
    simp [h0]
theorem preT_bad (a : List (List UInt8)) (m : Nat) (l : List UInt8) (h : (rText l).2.1 ≠ 0) : preT a (rTexts (m + 1) l) = ([], (rText l).2.1, []) := by
  unfold preT rTexts
  simp [h]
theorem preT_step (a : List (List UInt8)) (m : Nat) (l : List UInt8) (h : (rText l).2.1 = 0) : preT a (rTexts (m + 1) l) = preT (a ++ [(rText l).1]) (rTexts m (rText l).2.2) := by
  unfold preT
  simp only [rTexts, h]
  by_cases h2 : (rTexts m (rText l).2.2).2.1 = 0
  · simp [h2]
  · simp [h2]
theorem preT_end (a : List (List UInt8)) (l : List UInt8) : preT a (rTexts 0 l) = (a, 0, l) := by simp [preT, rTexts]
end Go.Proofs.YtoajckhfnadhjaaGreatDoor
