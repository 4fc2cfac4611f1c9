/- Names of what patches make, plainly: their order, sets of them. Words for memory: ids, rows of ids. Texts held against each other. Ids held against each other as structs. name.Right, and the reference's Right. The reference's Digits, Right, Text of ids. -/
import Derived.Laws.StructEq
import Derived.Handy
import Derived.Test.YtioknegeebgdbaaGreatDoorShelf
import Derived.BigQuiet
import Derived.Deep.QuietTactic
import Derived.Test.YtioknegeebgdbaaGreatDoorCk01
namespace Go.Proofs.YtioknegeebgdbaaGreatDoor
set_option linter.unusedVariables false

/-- An id: the patch's name, the how manieth. -/
abbrev Ik := List UInt8 × Int
def ltI (x y : Ik) : Prop := x.1 < y.1 ∨ (x.1 = y.1 ∧ x.2 < y.2)
instance (x y : Ik) : Decidable (ltI x y) := by unfold ltI; exact inferInstance
theorem i_irrefl (x : Ik) : ¬ ltI x x := by
  rintro (h | ⟨_, h⟩)
  · exact t_irrefl _ h
  · omega
theorem i_trans {x y z : Ik} (h : ltI x y) (h2 : ltI y z) : ltI x z := by
  rcases h with h | ⟨e, h⟩ <;> rcases h2 with h2 | ⟨e2, h2⟩
  · exact .inl (t_trans h h2)
  · exact .inl (e2 ▸ h)
  · exact .inl (e ▸ h2)
  · exact .inr ⟨e.trans e2, by omega⟩
theorem i_tri {x y : Ik} (h : ¬ ltI x y) (h2 : x ≠ y) : ltI y x := by
  by_cases e : x.1 = y.1
  · refine .inr ⟨e.symm, ?_⟩
    have h3 : ¬ x.2 < y.2 := fun h4 => h (.inr ⟨e, h4⟩)
    have h4 : x.2 ≠ y.2 := fun h5 => h2 (Prod.ext e h5)
    omega
  · exact .inl (t_tri (fun h3 => h (.inl h3)) e)
/-- An id put into a set; ids as a set. -/
def insI (x : Ik) : List Ik → List Ik
  | [] => [x]
  | y :: r => if ltI y x then y :: insI x r else if y = x then y :: r else x :: y :: r
def setI (l : List Ik) : List Ik := l.foldl (fun a x => insI x a) []
theorem mem_insI (z x : Ik) : ∀ l, z ∈ insI x l ↔ z = x ∨ z ∈ l
  | [] => by simp [insI]
  | y :: r => by
    unfold insI
    have ih := mem_insI z x r
    split
    · simp only [List.mem_cons, ih]
      constructor
      · rintro (h | h | h) <;> simp [h]
      · rintro (h | h | h) <;> simp [h]
    · split
      · rename_i h; subst h; simp
      · simp
def RiseI (l : List Ik) : Prop := l.Pairwise ltI
theorem rise_insI (x : Ik) : ∀ l, RiseI l → RiseI (insI x l)
  | [], _ => by simp [insI, RiseI]
  | y :: r, h => by
    unfold RiseI at h
    obtain ⟨h1, h2⟩ := List.pairwise_cons.1 h
    unfold insI
    split
    · rename_i hlt
      refine List.pairwise_cons.2 ⟨fun z hz => ?_, rise_insI x r h2⟩
      rcases (mem_insI z x r).1 hz with rfl | hz
      · exact hlt
      · exact h1 z hz
    · split
      · exact h
      · rename_i hn hne
        have hxy : ltI x y := i_tri hn hne
        refine List.pairwise_cons.2 ⟨fun z hz => ?_, h⟩
        rcases List.mem_cons.1 hz with rfl | hz
        · exact hxy
        · exact i_trans hxy (h1 z hz)
theorem setI_snoc (l : List Ik) (x : Ik) : setI (l ++ [x]) = insI x (setI l) := by simp [setI]
theorem mem_setI (z : Ik) (l : List Ik) : z ∈ setI l ↔ z ∈ l := by
  suffices h : ∀ (l a : List Ik), z ∈ l.foldl (fun a x => insI x a) a ↔ z ∈ l ∨ z ∈ a by simpa [setI] using h l []
  intro l
  induction l with
  | nil => simp
  | cons x r ih =>
    intro a
    simp only [List.foldl_cons, ih, mem_insI, List.mem_cons]
    constructor
    · rintro (h | h | h) <;> simp [h]
    · rintro ((h | h) | h) <;> simp [h]
theorem rise_setI (l : List Ik) : RiseI (setI l) := by
  suffices h : ∀ (l a : List Ik), RiseI a → RiseI (l.foldl (fun a x => insI x a) a) from h l [] List.Pairwise.nil
  intro l
  induction l with
  | nil => exact fun a h => h
  | cons x r ih => exact fun a h => ih _ (rise_insI x a h)
/-- Two rising rows of the same ids are one. -/
theorem rise_ext : ∀ {a b : List Ik}, RiseI a → RiseI b → (∀ z, z ∈ a ↔ z ∈ b) → a = b
  | [], [], _, _, _ => rfl
  | [], y :: r, _, _, h => absurd ((h y).2 (by simp)) (by simp)
  | x :: s, [], _, _, h => absurd ((h x).1 (by simp)) (by simp)
  | x :: s, y :: r, ha, hb, h => by
    obtain ⟨h1, h2⟩ := List.pairwise_cons.1 ha
    obtain ⟨h3, h4⟩ := List.pairwise_cons.1 hb
    have hxy : x = y := by
      rcases List.mem_cons.1 ((h x).1 (by simp)) with e | hx
      · exact e
      · rcases List.mem_cons.1 ((h y).2 (by simp)) with e | hy
        · exact e.symm
        · exact absurd (i_trans (h3 x hx) (h1 y hy)) (i_irrefl y)
    subst hxy
    rw [rise_ext h2 h4 fun z => ?_]
    constructor
    · intro hz
      rcases List.mem_cons.1 ((h z).1 (List.mem_cons_of_mem _ hz)) with e | hz2
      · subst e; exact absurd (h1 z hz) (i_irrefl z)
      · exact hz2
    · intro hz
      rcases List.mem_cons.1 ((h z).2 (List.mem_cons_of_mem _ hz)) with e | hz2
      · subst e; exact absurd (h3 z hz) (i_irrefl z)
      · exact hz2
theorem insI_in {x : Ik} {l : List Ik} (hr : RiseI l) (h : x ∈ l) : insI x l = l := rise_ext (rise_insI x l hr) hr fun z => by rw [mem_insI]; constructor; (rintro (rfl | h2); exact h; exact h2); exact fun h2 => .inr h2
theorem insI_len (x : Ik) : ∀ l, (insI x l).length ≤ l.length + 1
  | [] => by simp [insI]
  | y :: r => by
    have := insI_len x r
    unfold insI
    split
    · simp; omega
    · split <;> simp
theorem setI_len (l : List Ik) : (setI l).length ≤ l.length := by
  suffices h : ∀ (l a : List Ik), (l.foldl (fun a x => insI x a) a).length ≤ l.length + a.length by simpa [setI] using h l []
  intro l
  induction l with
  | nil => simp
  | cons x r ih =>
    intro a
    have h1 := ih (insI x a)
    have h2 := insI_len x a
    simp only [List.foldl_cons, List.length_cons]
    omega
/-- A patch's ids, one behind the other. -/
def rowI (p : List UInt8) (first n : Int) : List Ik := if 0 ≤ first ∧ 1 ≤ n ∧ n ≤ 2000 then (List.range n.toNat).map fun (i : Nat) => (p, first + (i : Int)) else []

/-- Decimal digits. -/
def digits (n : Nat) : List UInt8 := if h : n < 10 then [48 + UInt8.ofNat n] else digits (n / 10) ++ [48 + UInt8.ofNat (n % 10)]
termination_by n
decreasing_by omega
theorem digits_ne (n : Nat) : digits n ≠ [] := by
  unfold digits
  split <;> simp
/-- May it be? -/
def okI (right : List UInt8 → Bool) (x : Ik) : Bool := if x.1 = [] then decide (0 ≤ x.2 ∧ x.2 ≤ 2) else right x.1 && decide (0 ≤ x.2 ∧ x.2 ≤ 1048576)
def textI (right : List UInt8 → Bool) (x : Ik) : List UInt8 := if okI right x then x.1 ++ 35 :: digits x.2.toNat else []
end Go.Proofs.YtioknegeebgdbaaGreatDoor
namespace Go.Proofs.YtioknegeebgdbaaGreatDoor
open Go.RowKit
set_option linter.unusedVariables false

/-- An id as it lies: its patch, its number. -/
structure Im where
  p : ByteArray
  n : Int
deriving DecidableEq
def Im.key (x : Im) : Ik := (x.p.data.toList, x.n)
def Im.val (x : Im) : Value := .agg #[.string x.p, .int .i64 x.n]
/-- Its text and its number are what Go may hold. -/
def Im.Ok (x : Im) : Prop := x.p.size ≤ 9223372036854775807 ∧ -9223372036854775808 ≤ x.n ∧ x.n ≤ 9223372036854775807
theorem Im.key_inj {x y : Im} (h : x.key = y.key) : x = y := by
  obtain ⟨p, n⟩ := x
  obtain ⟨q, m⟩ := y
  simp only [Im.key, Prod.mk.injEq] at h
  obtain ⟨h1, rfl⟩ := h
  rw [bytes_inj h1]
def ikeys (l : List Im) : List Ik := l.map Im.key
theorem ikeys_len (l : List Im) : (ikeys l).length = l.length := by simp [ikeys]
theorem ikeys_get (l : List Im) (j : Nat) (h : j < (ikeys l).length) : (ikeys l)[j] = (l[j]'(by rw [ikeys_len] at h; exact h)).key := by simp [ikeys]
theorem ikeys_inj {a b : List Im} (h : ikeys a = ikeys b) : a = b := List.map_inj_right (fun _ _ => Im.key_inj) |>.1 h
theorem mem_ikeys {x : Im} {l : List Im} : x.key ∈ ikeys l ↔ x ∈ l := by
  unfold ikeys
  rw [List.mem_map]
  exact ⟨fun ⟨y, hy, e⟩ => by rw [← Im.key_inj e]; exact hy, fun h => ⟨x, h, rfl⟩⟩
def imOf (k : Ik) : Im := ⟨toB k.1, k.2⟩
theorem imOf_key (k : Ik) : (imOf k).key = k := by simp [imOf, Im.key, of_toB]
theorem key_imOf (x : Im) : imOf x.key = x := Im.key_inj (imOf_key _)

/-- Ids as records of two cells. -/
def idR : Rk Im where
  ty := 23
  tys := 24
  k := 2
  bytes := 24
  zero := .agg #[.string ByteArray.empty, .int .i64 0]
  enc := fun x => [.string x.p, .int .i64 x.n]
  len := fun _ => rfl
  one := fun x u hu => by
    simp only [List.mem_cons, List.not_mem_nil, or_false] at hu
    rcases hu with rfl | rfl <;> rfl
  pos := by decide
  small := by decide
  zsz := rfl
  info := by kernel_rfl
  und := Tryz.underlying24
abbrev Ids (w : World) (B : Nat) (A : Option Addr) (l : List Im) : Prop := idR.Row w B A l
abbrev OwnId (w : World) (B : Nat) (v : Value) (l : List Im) : Prop := idR.Own w B v l
abbrev IdAt (w : World) (g : Nat) (x : Im) : Prop := idR.At w g x
theorem ids_get {w : World} {B : Nat} {A : Option Addr} {l : List Im} (h : Ids w B A l) {j : Nat} (hj : j < l.length) : ∃ b off, A = some ⟨b, off, none⟩ ∧ b < B ∧ w.cell? ⟨b, off + j * 2, none⟩ = some (.string l[j].p) ∧ w.cell? ⟨b, off + j * 2 + 1, none⟩ = some (.int .i64 l[j].n) := by
  obtain ⟨b, off, e, hlt, hc⟩ := h.get hj
  exact ⟨b, off, e, hlt, hc 0 _ rfl, hc 1 _ rfl⟩
theorem id_c0 {w : World} {g : Nat} {x : Im} (h : IdAt w g x) : w.cell? ⟨g, 0, none⟩ = some (.string x.p) := h.cell (r := 0) rfl
theorem id_c1 {w : World} {g : Nat} {x : Im} (h : IdAt w g x) : w.cell? ⟨g, 1, none⟩ = some (.int .i64 x.n) := h.cell (r := 1) rfl
theorem id_new (w : World) (p : ByteArray) (n : Int) : IdAt (w.alloc (.cells #[.string p, .int .i64 n] 23)) w.heap.size ⟨p, n⟩ := Rk.At.new_ w (⟨p, n⟩ : Im)
theorem id_box (w : World) (x : Im) : Below w.heap.size w (w.alloc (.cells #[.string x.p, .int .i64 x.n] 23)) ∧ IdAt (w.alloc (.cells #[.string x.p, .int .i64 x.n] 23)) w.heap.size x := ⟨(Below.refl _ _).alloc (Nat.le_refl _) _, id_new w x.p x.n⟩
theorem id_box2 (w : World) (x y : Im) : Below w.heap.size w ((w.alloc (.cells #[.string x.p, .int .i64 x.n] 23)).alloc (.cells #[.string y.p, .int .i64 y.n] 23)) ∧
    IdAt ((w.alloc (.cells #[.string x.p, .int .i64 x.n] 23)).alloc (.cells #[.string y.p, .int .i64 y.n] 23)) w.heap.size x ∧ IdAt ((w.alloc (.cells #[.string x.p, .int .i64 x.n] 23)).alloc (.cells #[.string y.p, .int .i64 y.n] 23)) (w.heap.size + 1) y := by
  obtain ⟨b1, h1⟩ := id_box w x
  obtain ⟨b2, h2⟩ := id_box (w.alloc (.cells #[.string x.p, .int .i64 x.n] 23)) y
  refine ⟨b1.trans (b2.mono b1.size), h1.on b2, ?_⟩
  have e : (w.alloc (.cells #[.string x.p, .int .i64 x.n] 23)).heap.size = w.heap.size + 1 := by simp
  rw [e] at h2
  exact h2
end Go.Proofs.YtioknegeebgdbaaGreatDoor
namespace Go.Proofs.YtioknegeebgdbaaGreatDoor
open Go.RowKit
set_option linter.unusedVariables false

theorem str_ne {s t : ByteArray} (h : s ≠ t) : (s.toList == t.toList) = false := by
  rw [beq_eq_false_iff_ne]
  intro e
  rw [toList_eq, toList_eq] at e
  exact h (bytes_inj e)
theorem str_ne_empty {s : ByteArray} (h : s ≠ ⟨#[]⟩) : (s.toList == []) = false := by
  rw [beq_eq_false_iff_ne]
  intro e
  rw [toList_eq] at e
  exact h (bytes_inj e)
theorem str_eqb (s : ByteArray) : (s.toList == s.toList) = true := by simp
theorem toB_size (l : List UInt8) : (toB l).size = l.length := by simp [toB, ByteArray.size]
end Go.Proofs.YtioknegeebgdbaaGreatDoor
namespace Go.Proofs.YtioknegeebgdbaaGreatDoor
open Go.RowKit
set_option linter.unusedVariables false

theorem im_eqb (x y : Im) : decide (x = y) = ((x.p.toList == y.p.toList) && (x.n == y.n)) := by
  by_cases h : x = y
  · subst h
    simp
  · rw [decide_eq_false h]
    by_cases h2 : x.p = y.p
    · have h3 : x.n ≠ y.n := fun e => h (by obtain ⟨p, n⟩ := x; obtain ⟨q, m⟩ := y; simp_all)
      simp [h3]
    · rw [str_ne h2]
      rfl
set_option maxRecDepth 100000 in
theorem eql_id (x y : Im) (w : World) : (binOp .eql 23 (.agg #[.string x.p, .int .i64 x.n]) (.agg #[.string y.p, .int .i64 y.n])).run Tryz.prog w = .ok (.bool (decide (x = y))) w := by
  rw [run_eql_struct, im_eqb]
  cases h1 : (x.p.toList == y.p.toList) <;> cases h2 : (x.n == y.n) <;> simp [go_sem, h1, h2]
set_option maxRecDepth 100000 in
theorem neq_id (x y : Im) (w : World) : (binOp .neq 23 (.agg #[.string x.p, .int .i64 x.n]) (.agg #[.string y.p, .int .i64 y.n])).run Tryz.prog w = .ok (.bool (!decide (x = y))) w := by
  rw [run_neq_struct, im_eqb]
  cases h1 : (x.p.toList == y.p.toList) <;> cases h2 : (x.n == y.n) <;> simp [go_sem, h1, h2]
end Go.Proofs.YtioknegeebgdbaaGreatDoor
namespace Go.Proofs.YtioknegeebgdbaaGreatDoor
open Go.RowKit
set_option linter.unusedVariables false

def nameL : ByteArray := ⟨#[97, 98, 99, 100, 101, 102, 103, 104, 105, 106, 107, 108, 109, 110, 111, 112, 113, 114, 115, 116, 117, 118, 119, 120, 121, 122, 48, 49, 50, 51, 52, 53, 54, 55, 56, 57, 46, 95, 45]⟩
/-- Is each byte of a text one of these letters? -/
def allIn (L s : ByteArray) : Bool := s.data.toList.all fun c => L.data.toList.contains c
theorem indexByte_neg (c : UInt8) : ∀ l, Lib.indexByte l c < 0 ↔ l.contains c = false
  | [] => by simp [Lib.indexByte]
  | b :: l => by
    have ih := indexByte_neg c l
    have hg := Lib.indexByte_ge l c
    unfold Lib.indexByte
    by_cases h : b = c
    · subst h; simp
    · have h1 : (b == c) = false := by simpa using h
      have h2 : (c == b) = false := by simpa using fun e => h e.symm
      rw [List.contains_cons, h1, h2]
      simp only [Bool.false_eq_true, if_false, Bool.false_or]
      rw [← ih]
      split
      · rename_i h3
        have : Lib.indexByte l c = -1 := by simpa using h3
        omega
      · rename_i h3
        have : Lib.indexByte l c ≠ -1 := by simpa using h3
        omega
theorem allIn_no {L s : ByteArray} {k : Nat} (hk : k < s.size) (h : L.data.toList.contains s[k] = false) : allIn L s = false := by
  have : ¬ (s.data.toList.all fun c => L.data.toList.contains c) = true := by
    rw [List.all_eq_true]
    intro ha
    have := ha s[k] (by rw [show s[k] = s.data.toList[k]'(by simpa using hk) from rfl]; exact List.getElem_mem _)
    rw [h] at this
    cases this
  simpa [allIn] using this
theorem allIn_yes {L s : ByteArray} (h : ∀ k (hk : k < s.size), L.data.toList.contains s[k] = true) : allIn L s = true := by
  unfold allIn
  rw [List.all_eq_true]
  intro c hc
  obtain ⟨k, hk, rfl⟩ := List.getElem_of_mem hc
  exact h k (by simpa using hk)

set_option maxRecDepth 100000 in
theorem madeOf1_any (B : Nat) (L s : ByteArray) (w : World) (hB : B < w.heap.size) (hc : w.cell? ⟨B, 0, none⟩ = some (.string L)) (hs : s.size ≤ 9223372036854775807) :
    Calls Tryz.prog 110 #[.string s, .pointer (some ⟨B, 0, none⟩)] w fun e w' => e = .returned (.bool (allIn L s)) ∧ Below w.heap.size w w' := by
  go_enter Tryz.func110, Tryz.ntmps110
  go_wp2
  go_loopw [7] (fun i wr => ∃ k : Nat, k ≤ s.size ∧ i = .int .i64 (k : Int) ∧ Hid (∀ j (hj : j < s.size), j < k → L.data.toList.contains s[j] = true) ∧ Below w.heap.size w wr) (fun i _ => s.size - (intOf i).toNat)
  case atStart => exact ⟨0, Nat.zero_le _, rfl, fun j _ h => absurd h (by omega), Below.refl _ _⟩
  case round =>
    obtain ⟨k, hk, rfl, hall, hb⟩ := hrel
    have hcr : wr.cell? ⟨B, 0, none⟩ = some (.string L) := (hb.cell (p := ⟨B, 0, none⟩) hB).trans hc
    by_cases hlt : k < s.size
    · have hx : ∀ W, Calls Tryz.prog 111 #[.string L, .int .u8 (s[k].toNat : Int)] W fun e w' => e = .returned (.int .i64 (Lib.indexByte L.data.toList s[k])) ∧ w' = W := fun W => by
        have h := Tryz.strings_IndexByte L (s[k].toNat : Int) W
        simpa using h
      by_cases hin : L.data.toList.contains s[k] = true
      · have hneg : ¬ Lib.indexByte L.data.toList s[k] < 0 := by
          rw [indexByte_neg, hin]; simp
        have hyes : Hid (∀ j (hj : j < s.size), j < k + 1 → L.data.toList.contains s[j] = true) := by
          intro j hj hjk
          by_cases hjk2 : j = k
          · subst hjk2; exact hin
          · exact hall.out j hj (by omega)
        clear hall hin
        generalize Lib.indexByte L.data.toList s[k] = x at *
        go_wp2
        go_quiet (first | (go_at_call 111; refine Calls.quiet_of_same (hx _)))
        go_wp2
        go_roundw
        case rel => exact ⟨k + 1, by omega, by go_num, hyes, below_drewN hb _⟩
        case measure => simp [intOf]; omega
      · have hin2 : L.data.toList.contains s[k] = false := by simpa using hin
        have hneg : Lib.indexByte L.data.toList s[k] < 0 := (indexByte_neg _ _).2 hin2
        have hno := Lib.hid (allIn_no hlt hin2)
        clear hall hin hin2
        generalize Lib.indexByte L.data.toList s[k] = x at *
        go_wp2
        go_quiet (first | (go_at_call 111; refine Calls.quiet_of_same (hx _)))
        go_wp2
        go_ret
        rw [hno.out]
        exact ⟨rfl, below_drewN hb _⟩
    · have hk2 : k = s.size := by omega
      subst hk2
      have hyes := Lib.hid (allIn_yes fun j hj => hall.out j hj hj)
      clear hall
      go_wp2
      go_ret
      rw [hyes.out]
      exact ⟨rfl, hb⟩

/-- Is a text a name? -/
def rightB (s : ByteArray) : Bool := decide (1 ≤ s.size) && decide (s.size ≤ 40) && decide (s ≠ ⟨#[46]⟩) && decide (s ≠ ⟨#[46, 46]⟩) && allIn nameL s
theorem rightB_full {s : ByteArray} (h1 : 1 ≤ s.size) (h2 : s.size ≤ 40) (h3 : s ≠ ⟨#[46]⟩) (h4 : s ≠ ⟨#[46, 46]⟩) : rightB s = allIn nameL s := by
  simp [rightB, h1, h2, h3, h4]
theorem ne_toList {s : ByteArray} {l : List UInt8} (h : s ≠ ⟨l.toArray⟩) : ¬ s.toList = l := by
  intro e
  rw [toList_eq] at e
  exact h (bytes_inj (by rw [e]))
theorem ne_beq {s : ByteArray} {l : List UInt8} (h : s ≠ ⟨l.toArray⟩) : (s.toList == l) = false := by
  rw [beq_eq_false_iff_ne]
  exact ne_toList h

/-- What madeOf leaves: a function that asks the letters. -/
theorem madeOf_any (L : ByteArray) (w : World) :
    Calls Tryz.prog 90 #[.string L] w fun e w' => e = .returned (.func (.func 110) #[] #[.pointer (some ⟨w.heap.size, 0, none⟩)]) ∧ w' = w.alloc (.cells #[.string L] 9) := by
  go_enter Tryz.func90, Tryz.ntmps90
  go_wp2
  go_ret
  exact ⟨rfl, rfl⟩

set_option maxRecDepth 100000 in
theorem right_any (s : ByteArray) (w : World) (hs : s.size ≤ 9223372036854775807) :
    Calls Tryz.prog 72 #[.string s] w fun e w' => e = .returned (.bool (rightB s)) ∧ Below w.heap.size w w' := by
  by_cases h1 : s.size < 1
  · have hr : rightB s = false := by simp [rightB]; omega
    rw [hr]
    go_enter Tryz.func72, Tryz.ntmps72
    go_wp2
    go_ret
    exact ⟨rfl, Below.refl _ _⟩
  · by_cases h2 : 40 < s.size
    · have hr : rightB s = false := by simp [rightB]; omega
      rw [hr]
      go_enter Tryz.func72, Tryz.ntmps72
      go_wp2
      go_ret
      exact ⟨rfl, Below.refl _ _⟩
    · by_cases h3 : s = ⟨#[46]⟩
      · subst h3
        have hr : rightB ⟨#[46]⟩ = false := by decide
        rw [hr]
        go_enter Tryz.func72, Tryz.ntmps72
        go_wp2
        go_ret
        exact ⟨rfl, Below.refl _ _⟩
      · by_cases h4 : s = ⟨#[46, 46]⟩
        · subst h4
          have hr : rightB ⟨#[46, 46]⟩ = false := by decide
          rw [hr]
          go_enter Tryz.func72, Tryz.ntmps72
          go_wp2
          go_ret
          exact ⟨rfl, Below.refl _ _⟩
        · rw [rightB_full (by omega) (by omega) h3 h4]
          have e3 := ne_toList (l := [46]) h3
          have e4 := ne_toList (l := [46, 46]) h4
          have b3 := ne_beq (l := [46]) h3
          have b4 := ne_beq (l := [46, 46]) h4
          have hc := madeOf1_any w.heap.size nameL s (w.alloc (.cells #[.string nameL] 9)) (by simp) (by rw [World.cell?_alloc_new]; rfl) hs
          have hm := madeOf_any nameL w
          unfold nameL at hm hc
          obtain ⟨r, hr⟩ : ∃ r, Hid (allIn nameL s = r) := ⟨_, rfl⟩
          rw [show allIn ⟨#[97, 98, 99, 100, 101, 102, 103, 104, 105, 106, 107, 108, 109, 110, 111, 112, 113, 114, 115, 116, 117, 118, 119, 120, 121, 122, 48, 49, 50, 51, 52, 53, 54, 55, 56, 57, 46, 95, 45]⟩ s = r from hr.out] at hc
          rw [hr.out]
          clear h3 h4
          go_enter Tryz.func72, Tryz.ntmps72
          go_wp2_with (first
            | (go_at_call 90; refine hm.mono ?_; rintro e w1 ⟨rfl, rfl⟩)
            | (go_at_call 110; refine hc.mono ?_; rintro e w2 ⟨rfl, hb2⟩))
          go_ret
          exact ⟨rfl, ((Below.refl _ w).alloc (Nat.le_refl _) _).trans (hb2.mono (by simp))⟩

set_option maxRecDepth 100000 in
/-- The reference's letter. -/
theorem letter_any (c : UInt8) (w : World) :
    Calls Tryz.prog 49 #[.int .u8 (c.toNat : Int)] w fun e w' => e = .returned (.bool (nameL.data.toList.contains c)) ∧ w = w' := by
  obtain ⟨L, hL⟩ : ∃ L, L = nameL := ⟨_, rfl⟩
  have hsz : L.size = 39 := by rw [hL]; rfl
  have hL2 : (⟨#[97, 98, 99, 100, 101, 102, 103, 104, 105, 106, 107, 108, 109, 110, 111, 112, 113, 114, 115, 116, 117, 118, 119, 120, 121, 122, 48, 49, 50, 51, 52, 53, 54, 55, 56, 57, 46, 95, 45]⟩ : ByteArray) = L := by rw [hL]; rfl
  rw [← hL]
  clear hL
  go_enter Tryz.func49, Tryz.ntmps49
  go_wp2
  go_loop [4] (fun i => ∃ k : Nat, k ≤ L.size ∧ i = .int .i64 (k : Int) ∧ Hid (∀ j (hj : j < L.size), j < k → L[j] ≠ c)) (fun i => L.size - (intOf i).toNat)
  case atStart => exact ⟨0, Nat.zero_le _, rfl, fun j _ h => absurd h (by omega)⟩
  case round =>
    obtain ⟨k, hk, rfl, hall⟩ := hrel
    by_cases hlt : k < L.size
    · by_cases he : L[k] = c
      · have hyes : Hid (decide (c ∈ L.data) = true) := by
          show _ = _
          rw [decide_eq_true_eq, ← Array.mem_toList_iff, ← he]
          exact List.getElem_mem (l := L.data.toList) (by simpa using hlt)
        have hq : ((L[k].toNat : Int) == (c.toNat : Int)) = true := by rw [he]; simp
        clear hall he
        go_wp2
        go_ret
        rw [hyes.out]
        exact ⟨rfl, rfl⟩
      · have hq : ((L[k].toNat : Int) == (c.toNat : Int)) = false := by
          rw [beq_eq_false_iff_ne]
          intro h
          exact he (UInt8.toNat_inj.1 (by omega))
        have hall2 : Hid (∀ j (hj : j < L.size), j < k + 1 → L[j] ≠ c) := by
          intro j hj hjk
          by_cases h : j = k
          · subst h; exact he
          · exact hall.out j hj (by omega)
        clear hall
        go_wp2
        go_round
        case rel => exact ⟨k + 1, by omega, by go_num, hall2⟩
        case measure => simp [intOf]; omega
    · have hk2 : k = L.size := by omega
      subst hk2
      have hno : Hid (decide (c ∈ L.data) = false) := by
        show _ = _
        rw [decide_eq_false_iff_not, ← Array.mem_toList_iff]
        intro h
        obtain ⟨j, hj, e⟩ := List.getElem_of_mem h
        exact hall.out j (by simpa using hj) (by simpa using hj) e
      clear hall
      go_wp2
      go_ret
      rw [hno.out]
      exact ⟨rfl, rfl⟩

set_option maxRecDepth 100000 in
theorem refright_any (s : ByteArray) (w : World) (hs : s.size ≤ 9223372036854775807) :
    Calls Tryz.prog 26 #[.string s] w fun e w' => e = .returned (.bool (rightB s)) ∧ w = w' := by
  go_enter Tryz.func26, Tryz.ntmps26
  go_wp2
  go_loop [3] (fun i => ∃ k : Nat, k ≤ s.size ∧ i = .int .i64 (k : Int) ∧ Hid (∀ j (hj : j < s.size), j < k → nameL.data.toList.contains s[j] = true)) (fun i => s.size - (intOf i).toNat)
  case atStart => exact ⟨0, Nat.zero_le _, rfl, fun j _ h => absurd h (by omega)⟩
  case round =>
    obtain ⟨k, hk, rfl, hall⟩ := hrel
    by_cases hlt : k < s.size
    · have hl := letter_any s[k]
      by_cases hin : nameL.data.toList.contains s[k] = true
      · rw [hin] at hl
        have hyes : Hid (∀ j (hj : j < s.size), j < k + 1 → nameL.data.toList.contains s[j] = true) := by
          intro j hj hjk
          by_cases hjk2 : j = k
          · subst hjk2; exact hin
          · exact hall.out j hj (by omega)
        clear hall hin
        go_wp2_with (go_at_call 49; refine (hl _).mono ?_; rintro e w1 ⟨rfl, rfl⟩)
        go_round
        case rel => exact ⟨k + 1, by omega, by go_num, hyes⟩
        case measure => simp [intOf]; omega
      · have hin2 : nameL.data.toList.contains s[k] = false := by simpa using hin
        rw [hin2] at hl
        have hno : Hid (rightB s = false) := by
          show _ = _
          unfold rightB
          rw [allIn_no hlt hin2]
          simp
        clear hall hin hin2
        go_wp2_with (go_at_call 49; refine (hl _).mono ?_; rintro e w1 ⟨rfl, rfl⟩)
        go_ret
        rw [hno.out]
        exact ⟨rfl, rfl⟩
    · have hk2 : k = s.size := by omega
      subst hk2
      have hyes := allIn_yes fun j hj => hall.out j hj hj
      clear hall
      by_cases h1 : s.size < 1
      · have hr : Hid (rightB s = false) := by show _ = _; simp [rightB]; omega
        clear hyes
        go_wp2
        go_ret
        rw [hr.out]
        exact ⟨rfl, rfl⟩
      · by_cases h2 : 40 < s.size
        · have hr : Hid (rightB s = false) := by show _ = _; simp [rightB]; omega
          clear hyes
          go_wp2
          go_ret
          rw [hr.out]
          exact ⟨rfl, rfl⟩
        · by_cases h3 : s = ⟨#[46]⟩
          · have hr : Hid (rightB s = false) := by rw [h3]; show _ = _; decide
            subst h3
            clear hyes
            go_wp2
            go_ret
            rw [hr.out]
            exact ⟨rfl, rfl⟩
          · by_cases h4 : s = ⟨#[46, 46]⟩
            · have hr : Hid (rightB s = false) := by rw [h4]; show _ = _; decide
              subst h4
              clear hyes
              go_wp2
              go_ret
              rw [hr.out]
              exact ⟨rfl, rfl⟩
            · have hr : Hid (rightB s = true) := by show _ = _; rw [rightB_full (by omega) (by omega) h3 h4]; exact hyes
              have e3 := ne_toList (l := [46]) h3
              have e4 := ne_toList (l := [46, 46]) h4
              have b3 := ne_beq (l := [46]) h3
              have b4 := ne_beq (l := [46, 46]) h4
              clear hyes h3 h4
              go_wp2
              go_ret
              rw [hr.out]
              exact ⟨rfl, rfl⟩
end Go.Proofs.YtioknegeebgdbaaGreatDoor
namespace Go.Proofs.YtioknegeebgdbaaGreatDoor
open Go.RowKit
set_option linter.unusedVariables false

theorem digits_lt {n : Nat} (h : n < 10) : digits n = [48 + UInt8.ofNat n] := by
  unfold digits
  rw [dif_pos h]
theorem digits_ge {n : Nat} (h : ¬ n < 10) : digits n = digits (n / 10) ++ [48 + UInt8.ofNat (n % 10)] := by
  rw [digits, dif_neg h]
theorem digits_len (n : Nat) : (digits n).length ≤ n + 1 := by
  induction n using Nat.strongRecOn with
  | _ n ih =>
    by_cases h : n < 10
    · rw [digits_lt h]
      simp
    · rw [digits_ge h, List.length_append]
      have := ih (n / 10) (by omega)
      simp only [List.length_cons, List.length_nil]
      omega
theorem toB_app (a b : List UInt8) : toB a ++ toB b = toB (a ++ b) := by
  apply bytes_inj
  simp [toB]
set_option maxHeartbeats 2000000 in
set_option maxRecDepth 100000 in
theorem refdigit_any (n : Nat) (h : n < 10) (w : World) : Calls Tryz.prog 63 #[.int .i64 (n : Int)] w fun e w' => e = .returned (.string (toB [48 + UInt8.ofNat n])) ∧ w' = w := by
  have hc : n = 0 ∨ n = 1 ∨ n = 2 ∨ n = 3 ∨ n = 4 ∨ n = 5 ∨ n = 6 ∨ n = 7 ∨ n = 8 ∨ n = 9 := by omega
  rcases hc with rfl | rfl | rfl | rfl | rfl | rfl | rfl | rfl | rfl | rfl
  all_goals
    go_enter Tryz.func63, Tryz.ntmps63
    go_wp2
    go_ret
    exact ⟨rfl, rfl⟩
set_option maxHeartbeats 2000000 in
set_option maxRecDepth 100000 in
theorem refdigits_any : ∀ (m n : Nat), n < m → n ≤ 4611686018427387904 → ∀ w, Calls Tryz.prog 63 #[.int .i64 (n : Int)] w fun e w' => e = .returned (.string (toB (digits n))) ∧ w' = w
  | 0, n, h, _, w => absurd h (by omega)
  | m + 1, n, h, hb, w => by
    by_cases hs : n < 10
    · rw [digits_lt hs]
      exact refdigit_any n hs w
    · have c1 := fun w => refdigits_any m (n / 10) (by omega) (by omega) w
      have c2 := fun w => refdigit_any (n % 10) (Nat.mod_lt _ (by omega)) w
      rw [show ((n / 10 : Nat) : Int) = (n : Int) / 10 by omega] at c1
      rw [show ((n % 10 : Nat) : Int) = (n : Int) % 10 by omega] at c2
      have C1 := Lib.hid c1
      have C2 := Lib.hid c2
      clear c1 c2
      have hd : Hid (toB (digits (n / 10)) ++ toB [48 + UInt8.ofNat (n % 10)] = toB (digits n)) := by
        show _ = _
        rw [toB_app, ← digits_ge hs]
      have z1 : ¬ 9223372036854775807 < (toB (digits (n / 10))).size + (toB [48 + UInt8.ofNat (n % 10)]).size := by
        rw [toB_size, toB_size]
        have := digits_len (n / 10)
        simp only [List.length_cons, List.length_nil]
        omega
      have q1 : (10 : Int) ≤ (n : Int) := by omega
      have q2 : ¬ (n : Int) < 10 := by omega
      go_enter Tryz.func63, Tryz.ntmps63
      go_wp2_with fail
      refine (C1.out _).mono ?_
      rintro e w1 ⟨rfl, h1⟩
      subst h1
      go_wp2_with fail
      refine (C2.out _).mono ?_
      rintro e w1 ⟨rfl, h1⟩
      subst h1
      go_wp2
      go_ret
      rw [← hd.out]
      exact ⟨rfl, rfl⟩
set_option maxHeartbeats 2000000 in
set_option maxRecDepth 100000 in
theorem refiright_any (x : Im) (w : World) (ox : x.p.size ≤ 9223372036854775807) :
    Calls Tryz.prog 47 #[x.val] w fun e w' => e = .returned (.bool (okI (fun l => rightB (toB l)) x.key)) ∧ Below w.heap.size w w' := by
  obtain ⟨hb, hx⟩ := id_box w x
  unfold Im.val
  have HB := Lib.hid hb
  have c0 := id_c0 hx
  have c1 := id_c1 hx
  have CR := Lib.hid (fun w => refright_any x.p w ox)
  have hk : Hid (okI (fun l => rightB (toB l)) x.key = if x.p = ⟨#[]⟩ then decide (0 ≤ x.n ∧ x.n ≤ 2) else rightB x.p && decide (0 ≤ x.n ∧ x.n ≤ 1048576)) := by
    show _ = _
    unfold okI Im.key
    simp only [toB_of]
    by_cases h : x.p = ⟨#[]⟩
    · rw [if_pos h, if_pos (by rw [h])]
    · rw [if_neg h, if_neg fun e => h (bytes_inj (by rw [e]))]
  rw [hk.out]
  clear hb hx hk
  obtain ⟨p, n⟩ := x
  simp only at *
  by_cases h : p = ⟨#[]⟩
  · subst h
    rw [if_pos rfl]
    by_cases h1 : 0 ≤ n
    · by_cases h2 : n ≤ 2
      · have hv : decide (0 ≤ n ∧ n ≤ 2) = true := decide_eq_true ⟨h1, h2⟩
        rw [hv]
        have h3 : n ≥ 0 := h1
        go_enter Tryz.func47, Tryz.ntmps47
        go_wp2
        go_ret
        exact ⟨rfl, HB.out⟩
      · have hv : decide (0 ≤ n ∧ n ≤ 2) = false := decide_eq_false fun h => h2 h.2
        rw [hv]
        have h3 : n ≥ 0 := h1
        go_enter Tryz.func47, Tryz.ntmps47
        go_wp2
        go_ret
        exact ⟨rfl, HB.out⟩
    · have hv : decide (0 ≤ n ∧ n ≤ 2) = false := decide_eq_false fun h => h1 h.1
      rw [hv]
      have h3 : ¬ n ≥ 0 := h1
      go_enter Tryz.func47, Tryz.ntmps47
      go_wp2
      go_ret
      exact ⟨rfl, HB.out⟩
  · rw [if_neg h]
    have h0 := str_ne_empty h
    by_cases h4 : rightB p = true
    · rw [h4] at CR
      by_cases h1 : 0 ≤ n
      · by_cases h2 : n ≤ 1048576
        · have hv : (rightB p && decide (0 ≤ n ∧ n ≤ 1048576)) = true := by rw [h4, decide_eq_true ⟨h1, h2⟩]; rfl
          rw [hv]
          have h3 : n ≥ 0 := h1
          clear h4 hv
          go_enter Tryz.func47, Tryz.ntmps47
          go_wp2_with (go_at_call 26; refine (CR.out _).mono ?_; rintro e w1 ⟨rfl, rfl⟩)
          go_ret
          exact ⟨rfl, HB.out⟩
        · have hv : (rightB p && decide (0 ≤ n ∧ n ≤ 1048576)) = false := by rw [decide_eq_false fun h => h2 h.2, Bool.and_false]
          rw [hv]
          have h3 : n ≥ 0 := h1
          clear h4 hv
          go_enter Tryz.func47, Tryz.ntmps47
          go_wp2_with (go_at_call 26; refine (CR.out _).mono ?_; rintro e w1 ⟨rfl, rfl⟩)
          go_ret
          exact ⟨by show Ending.returned (Value.bool (decide (n ≤ 1048576))) = _; rw [decide_eq_false (by omega)], HB.out⟩
      · have hv : (rightB p && decide (0 ≤ n ∧ n ≤ 1048576)) = false := by rw [decide_eq_false fun h => h1 h.1, Bool.and_false]
        rw [hv]
        have h3 : ¬ n ≥ 0 := h1
        clear h4 hv
        go_enter Tryz.func47, Tryz.ntmps47
        go_wp2_with (go_at_call 26; refine (CR.out _).mono ?_; rintro e w1 ⟨rfl, rfl⟩)
        go_ret
        exact ⟨rfl, HB.out⟩
    · have h5 : rightB p = false := by simpa using h4
      rw [h5] at CR
      rw [h5, Bool.false_and]
      clear h4 h5
      go_enter Tryz.func47, Tryz.ntmps47
      go_wp2_with (go_at_call 26; refine (CR.out _).mono ?_; rintro e w1 ⟨rfl, rfl⟩)
      go_ret
      exact ⟨rfl, HB.out⟩
set_option maxHeartbeats 2000000 in
set_option maxRecDepth 100000 in
theorem refitext_any (x : Im) (w : World) (ox : x.p.size ≤ 1000000) :
    Calls Tryz.prog 36 #[x.val] w fun e w' => e = .returned (.string (toB (textI (fun l => rightB (toB l)) x.key))) ∧ Below w.heap.size w w' := by
  obtain ⟨hb, hx⟩ := id_box w x
  have HB := Lib.hid hb
  have HX := Lib.hid hx
  have CR := Lib.hid (refiright_any x (w.alloc (.cells #[.string x.p, .int .i64 x.n] 23)) (by omega))
  have c0 := id_c0 hx
  have c1 := id_c1 hx
  clear hb hx
  unfold textI
  cases hk : okI (fun l => rightB (toB l)) x.key
  · rw [hk] at CR
    unfold Im.val at CR ⊢
    rw [if_neg (by simp)]
    go_enter Tryz.func36, Tryz.ntmps36
    go_wp2_with fail
    refine CR.out.mono ?_
    rintro e w1 ⟨rfl, hb⟩
    have HF := Lib.hid (HB.out.trans (hb.mono HB.out.size))
    clear hb CR
    go_wp2
    go_ret
    exact ⟨rfl, HF.out⟩
  · rw [hk] at CR
    rw [if_pos rfl]
    have hn : 0 ≤ x.n ∧ x.n ≤ 1048576 := by
      unfold okI at hk
      split at hk
      · have := of_decide_eq_true hk
        show 0 ≤ x.key.2 ∧ x.key.2 ≤ 1048576
        omega
      · have := (Bool.and_eq_true_iff.1 hk).2
        exact of_decide_eq_true this
    obtain ⟨m, hm⟩ : ∃ m : Nat, x.n = (m : Int) := ⟨x.n.toNat, by omega⟩
    have CD := Lib.hid (fun w => refdigits_any (m + 1) m (by omega) (by omega) w)
    have hv : Hid (x.p ++ ⟨#[35]⟩ ++ toB (digits m) = toB (x.key.1 ++ 35 :: digits x.key.2.toNat)) := by
      show _ = _
      apply bytes_inj
      have e : x.key.2.toNat = m := by show x.n.toNat = m; omega
      rw [e, of_toB]
      simp [Im.key, toB]
    rw [← hv.out]
    unfold Im.val at CR ⊢
    rw [hm] at CR c1 ⊢
    rw [hm] at HB HX
    have HM := Lib.hid hm
    have hs0 : (⟨#[35]⟩ : ByteArray).size = 1 := rfl
    have z0 := digits_len m
    have z1 : ¬ 9223372036854775807 < x.p.size + 1 := by omega
    have z2 : ¬ 9223372036854775807 < x.p.size + 1 + (toB (digits m)).size := by rw [toB_size]; omega
    have z3 : ¬ 9223372036854775807 < (x.p ++ ⟨#[35]⟩).size + (toB (digits m)).size := by rw [toB_size, ByteArray.size_append, hs0]; omega
    clear hv hk hn hm
    go_enter Tryz.func36, Tryz.ntmps36
    go_wp2_with fail
    refine CR.out.mono ?_
    rintro e w1 ⟨rfl, hb⟩
    have HF := Lib.hid (HB.out.trans (hb.mono HB.out.size))
    have hx1 := HX.out.on hb
    have hq : ∀ q, Hid (Below w.heap.size w (w1.drewN q)) := fun q => below_drewN HF.out q
    have d0 := id_c0 hx1
    have d1 := id_c1 hx1
    rw [HM.out] at d1
    clear hb CR HF c0 c1
    go_wp2
    go_quiet ((go_at_call 63; exact Calls.quiet_of_same (CD.out _)))
    go_wp2
    go_ret
    exact ⟨rfl, (hq _).out⟩
end Go.Proofs.YtioknegeebgdbaaGreatDoor
