/- Rows of operations. Words for memory: patches. Words for memory: rows of strings; a builder kept while other blocks are made. package code's Reader: contracts of all its calls. Numerals of ids, plainly: what Atoi makes of them; a text parted at its first number sign. What the library's Itoa and Atoi read of the world: the powers of ten, two errors. Beside 'Below', draws that only grow: what the library's sort asks of a comparison. Package ident's Text, Parse: strconv.Itoa, strings.Cut at a number sign, strconv.Atoi. Package op: what stands while an operation is read, part by part. The statements' Light of layer 3 (other layers call it too). -/
import Derived.Lib.SlicesCompact
import Derived.Test.YtideldgblafhlaaDoorProg
import Derived.WalkKit
import Derived.WalkSpells
import Derived.Handy
import Derived.Lib.Hide
import Derived.Shelf.Strings.BuilderK
import Derived.BigQuiet
import Derived.Deep.QuietTactic
import Derived.Lib.AtoiAllCases
import Derived.Lib.ItoaMem
import Derived.Lib.SmallJoins
import Derived.Lib.LaidTab
import Derived.Lib.QuietBelow
import Derived.Test.YtideldgblafhlaaDoorShelf
import Derived.Deep.RegionHeld3
import Derived.Deep.CutRange
import Derived.Lib.AppendIntMem
import Derived.Deep.MidRow
import Derived.StillTailTactics
import Derived.Deep.AppendLies
import Derived.Test.YtideldgblafhlaaDoorCk03
namespace Go.Proofs.YtideldgblafhlaaDoor
open Go.RowKit
set_option linter.unusedVariables false

def okeys (l : List Om) : List OpK := l.map Om.key
/-- Operations lie at A, their rows with them. -/
def Ops (w : World) (B : Nat) (A : Option Addr) (l : List Om) : Prop := opR.Row w B A l ∧ ∀ x ∈ l, x.Ok w B
theorem Ops.on {w w' : World} {A : Option Addr} {l : List Om} (h : Ops w w.heap.size A l) (hb : Below w.heap.size w w') : Ops w' w'.heap.size A l := ⟨h.1.on hb, fun x hx => (h.2 x hx).on hb⟩
end Go.Proofs.YtideldgblafhlaaDoor
namespace Go.Proofs.YtideldgblafhlaaDoor
open Go.RowKit
set_option linter.unusedVariables false

/-- A patch as it lies. -/
structure Ptm where
  name : ByteArray
  a1 : Option Addr
  c1 : Nat
  deps : List (List UInt8)
  a2 : Option Addr
  c2 : Nat
  ops : List Om
def Ptm.key (x : Ptm) : PatK := ⟨x.name.data.toList, x.deps, okeys x.ops⟩
def Ptm.cells (x : Ptm) : List Value := [.string x.name, .slice x.a1 x.deps.length x.c1, .slice x.a2 x.ops.length x.c2]
def Ptm.val (x : Ptm) : Value := .agg x.cells.toArray
/-- Its rows lie below B. -/
structure Ptm.Ok (x : Ptm) (w : World) (B : Nat) : Prop where
  deps : Strs w B x.a1 (toBs x.deps)
  room1 : Room x.a1 x.deps.length x.c1
  ops : Ops w B x.a2 x.ops
  room2 : Room x.a2 x.ops.length x.c2
theorem Ptm.Ok.on {x : Ptm} {w w' : World} (h : x.Ok w w.heap.size) (hb : Below w.heap.size w w') : x.Ok w' w'.heap.size := ⟨h.deps.on hb, h.room1, h.ops.on hb, h.room2⟩
/-- Its texts and rows are what Go may hold. -/
structure Ptm.Sz (x : Ptm) : Prop where
  name : x.name.size ≤ 9223372036854775807
  few : x.deps.length ≤ 100000
  deps : ∀ d ∈ x.deps, d.length ≤ 9223372036854775807
  many : x.ops.length ≤ 100000
  ops : ∀ o ∈ x.ops, o.Sz
/-- A variable of a patch: its three cells. -/
structure PatB (w : World) (g : Nat) (u0 u1 u2 : Value) : Prop where
  blk : w.heap[g]? = some (.cells #[u0, u1, u2] 42 (0, 0))
theorem PatB.lt {w : World} {g : Nat} {u0 u1 u2 : Value} (h : PatB w g u0 u1 u2) : g < w.heap.size := (Array.getElem?_eq_some_iff.1 h.blk).1
theorem PatB.on {w w' : World} {g : Nat} {u0 u1 u2 : Value} (h : PatB w g u0 u1 u2) (hb : Below w.heap.size w w') : PatB w' g u0 u1 u2 := ⟨(hb.block g h.lt).trans h.blk⟩
theorem PatB.c0 {w : World} {g : Nat} {u0 u1 u2 : Value} (h : PatB w g u0 u1 u2) : w.cell? ⟨g, 0, none⟩ = some u0 := by simp [World.cell?, h.blk]
theorem PatB.c1 {w : World} {g : Nat} {u0 u1 u2 : Value} (h : PatB w g u0 u1 u2) : w.cell? ⟨g, 1, none⟩ = some u1 := by simp [World.cell?, h.blk]
theorem PatB.c2 {w : World} {g : Nat} {u0 u1 u2 : Value} (h : PatB w g u0 u1 u2) : w.cell? ⟨g, 2, none⟩ = some u2 := by simp [World.cell?, h.blk]
theorem PatB.fz {w : World} {g : Nat} {u0 u1 u2 : Value} (h : PatB w g u0 u1 u2) (i : Nat) : w.frozen? ⟨g, i, none⟩ = false := by simp [World.frozen?, h.blk]
theorem patb_box (w : World) (u0 u1 u2 : Value) : Below w.heap.size w (w.alloc (.cells #[u0, u1, u2] 42)) ∧ PatB (w.alloc (.cells #[u0, u1, u2] 42)) w.heap.size u0 u1 u2 :=
  ⟨(Below.refl _ _).alloc (Nat.le_refl _) _, ⟨heap_alloc_new w _⟩⟩
abbrev PatAt (w : World) (g : Nat) (x : Ptm) : Prop := PatB w g (.string x.name) (.slice x.a1 x.deps.length x.c1) (.slice x.a2 x.ops.length x.c2)
theorem pat_box (w : World) (x : Ptm) : Below w.heap.size w (w.alloc (.cells #[.string x.name, .slice x.a1 x.deps.length x.c1, .slice x.a2 x.ops.length x.c2] 42)) ∧ PatAt (w.alloc (.cells #[.string x.name, .slice x.a1 x.deps.length x.c1, .slice x.a2 x.ops.length x.c2] 42)) w.heap.size x :=
  patb_box w _ _ _
theorem Ops.take {w : World} {B : Nat} {A : Option Addr} {l : List Om} (h : Ops w B A l) (n : Nat) : Ops w B A (l.take n) := ⟨h.1.take n, fun x hx => h.2 x (List.mem_of_mem_take hx)⟩
theorem okeys_len (l : List Om) : (okeys l).length = l.length := by simp [okeys]
end Go.Proofs.YtideldgblafhlaaDoor
namespace Go.Proofs.YtideldgblafhlaaDoor
open Go.RowKit
set_option linter.unusedVariables false

/-- Strings lie at A, in a block that is a row of strings. -/
def StrRow (w : World) (A : Option Addr) (ss : List ByteArray) : Prop :=
  0 < ss.length → ∃ b off cur fz, A = some ⟨b, off, none⟩ ∧ w.heap[b]? = some (.cells cur 9 fz) ∧ ∀ j (h : j < ss.length), cur[off + j]? = some (.string ss[j])
section
variable {w w' : World} {B B' : Nat} {A : Option Addr} {ss : List ByteArray}
theorem StrRow.at_ {k : Nat} (h : StrRow w A ss) (hk : k < ss.length) : ∃ b off, A = some ⟨b, off, none⟩ ∧ w.cell? ⟨b, off + k, none⟩ = some (.string ss[k]) := by
  obtain ⟨b, off, cur, fz, e, hb, hc⟩ := h (by omega)
  exact ⟨b, off, e, by rw [cell_of_row w b (off + k) cur _ fz hb]; exact hc k hk⟩
theorem StrRow.kept {b : Nat} {T : TypeId} {cs : Array Value} {fr : Nat × Nat} (h : StrRow w A ss) (hk : Lib.OthersKept 5 (some b) w w') (hb : w.heap[b]? = some (.cells cs T fr)) (hT : T ≠ 9) : StrRow w' A ss := fun hp => by
  obtain ⟨g, off, cur, fz, e, hg, hc⟩ := h hp
  refine ⟨g, off, cur, fz, e, hk g _ hg ?_ ?_, hc⟩
  · intro he
    have : g = b := by simpa using he
    subst this
    rw [hg] at hb
    simp only [Option.some.injEq, Obj.cells.injEq] at hb
    exact hT hb.2.1.symm
  · intro c f he
    simp only [Obj.cells.injEq] at he
    exact absurd he.2.1 (by decide)
end
end Go.Proofs.YtideldgblafhlaaDoor
namespace Go.Proofs.YtideldgblafhlaaDoor
open Go.RowKit
set_option linter.unusedVariables false

def pair (o : Option Nat) : Value := match o with | none => .tuple #[.int .u64 0, .bool false] | some n => .tuple #[.int .u64 (n : Int), .bool true]
end Go.Proofs.YtideldgblafhlaaDoor
namespace Go.Proofs.YtideldgblafhlaaDoor
open Go.RowKit
set_option linter.unusedVariables false

theorem dec_digits (n : Nat) : Lib.decDigits n = digits n := by
  induction n using Nat.strongRecOn with
  | _ n ih =>
    rw [Lib.decDigits]
    by_cases h : n < 10
    · rw [dif_pos h, digits_lt h, UInt8.ofNat_add]
      rfl
    · rw [dif_neg h, digits_ge h, ih (n / 10) (by omega), UInt8.ofNat_add]
      rfl
end Go.Proofs.YtideldgblafhlaaDoor
namespace Go.Proofs.YtideldgblafhlaaDoor
open Go.RowKit
set_option linter.unusedVariables false

/-- A value that an error variable may hold. -/
def ErrV (w : World) (g : Nat) : Prop := ∃ ev, w.cell? ⟨g, 0, none⟩ = some ev ∧ (ev = .nilIface ∨ ∃ te pe, ev = .iface te pe)
structure Nums (w : World) : Prop where
  tab : Lib.TabIs Tryd.prog w "internal/strconv.uint64pow10" .u64 Lib.pow10Tab
theorem ErrV.on {w w' : World} {g : Nat} (h : ErrV w g) (hb : Below w.heap.size w w') : ErrV w' g := by
  obtain ⟨ev, h1, h2⟩ := h
  exact ⟨ev, (hb.cell (p := ⟨g, 0, none⟩) (World.block_lt_of_cell? _ _ h1)).trans h1, h2⟩
theorem Nums.on {w w' : World} (h : Nums w) (hb : Below w.heap.size w w') : Nums w' :=
  ⟨Joins.tab_stays (g := 0) (by kernel_rfl) h.tab hb (Nat.le_refl _)⟩
end Go.Proofs.YtideldgblafhlaaDoor
namespace Go.Proofs.YtideldgblafhlaaDoor
open Go.RowKit
set_option linter.unusedVariables false

/-- Of what was there nothing has turned; the tape was asked on. -/
structure Bd (w w' : World) : Prop where
  b : Below w.heap.size w w'
  d : w.drawn ≤ w'.drawn
section
variable {w w' w2 : World}
theorem Bd.refl (w : World) : Bd w w := ⟨Below.refl _ _, Nat.le_refl _⟩
theorem Bd.trans (h : Bd w w') (k : Bd w' w2) : Bd w w2 := ⟨h.b.trans (k.b.mono h.b.size), Nat.le_trans h.d k.d⟩
theorem Bd.alloc (h : Bd w w') (o : Obj) : Bd w (w'.alloc o) := ⟨h.b.alloc h.b.size o, by simpa using h.d⟩
theorem Bd.drew (h : Bd w w') : Bd w w'.drew := ⟨h.b.drew, Nat.le_succ_of_le h.d⟩
theorem Bd.drewN (h : Bd w w') (n : Nat) : Bd w (w'.drewN n) := ⟨below_drewN h.b n, Nat.le_trans h.d (Nat.le_add_right _ _)⟩
theorem Bd.size (h : Bd w w') : w.heap.size ≤ w'.heap.size := h.b.size
theorem Bd.grow (h : Bd w w') : ∃ q os, w' = Sort.grow (w.drewN q) os := by
  obtain ⟨p, rfl⟩ := regrown_of_below h.b
  have hd : w.drawn ≤ p.d := h.d
  refine ⟨p.d - w.drawn, p.os, ?_⟩
  have e : redrawn w p.d = w.drewN (p.d - w.drawn) := by
    unfold redrawn World.drewN
    congr 1
    omega
  rw [e]
end
end Go.Proofs.YtideldgblafhlaaDoor
namespace Go.Proofs.YtideldgblafhlaaDoor
open Go.RowKit
set_option linter.unusedVariables false

theorem itoa_any (m : Nat) (w : World) (hT : Nums w) (hm : m ≤ 1048576) : Calls Tryd.prog 31 #[.int .i64 (m : Int)] w fun e w' => e = .returned (.string (toB (digits m))) ∧ Below w.heap.size w w' := by
  have h := Tryd.strconv_Itoa (m : Int) (by omega) (by omega) w hT.tab
  rw [Lib.itoa_nonneg, dec_digits] at h
  refine h.mono ?_
  rintro e w' ⟨rfl, k, os, rfl⟩
  exact ⟨rfl, Lib.below_grow _ w (Nat.le_refl _) k os⟩
set_option maxHeartbeats 4000000 in
set_option maxRecDepth 100000 in
theorem idtext_any (x : Im) (w : World) (hT : Nums w) (ox : x.p.size ≤ 1000000) :
    Calls Tryd.prog 18 #[x.val] w fun e w' => e = .returned (.string (toB (textK x.key))) ∧ Below w.heap.size w w' := by
  obtain ⟨hb, hx⟩ := id_box w x
  have HB := Lib.hid hb
  have HX := Lib.hid hx
  have HT := Lib.hid (hT.on hb)
  have CR := Lib.hid (idright_any x (w.alloc (.cells #[.string x.p, .int .i64 x.n] 23)) (by omega))
  clear hb hx hT
  cases hk : okK x.key
  · rw [hk] at CR
    rw [textK_no hk]
    unfold Im.val at CR ⊢
    have c0 := id_c0 HX.out
    have c1 := id_c1 HX.out
    go_enter Tryd.func18, Tryd.ntmps18
    go_wp2_with fail
    refine CR.out.mono ?_
    rintro e w1 ⟨rfl, hb⟩
    have HF := Lib.hid (HB.out.trans (hb.mono HB.out.size))
    clear hb CR c0 c1
    go_wp2
    go_ret
    exact ⟨rfl, HF.out⟩
  · rw [hk] at CR
    have hn := okK_n hk
    obtain ⟨m, hm⟩ : ∃ m : Nat, x.n = (m : Int) := ⟨x.n.toNat, by have h : x.n = x.key.2 := rfl; omega⟩
    have hm2 : m ≤ 1048576 := by
      have h : x.key.2 = (m : Int) := hm
      omega
    have hv : Hid (x.p ++ ⟨#[35]⟩ ++ toB (digits m) = toB (textK x.key)) := by
      show _ = _
      rw [textK_ok hk]
      apply bytes_inj
      have e : x.key.2.toNat = m := by show x.n.toNat = m; omega
      rw [e, of_toB]
      simp [Im.key, toB]
    rw [← hv.out]
    have hs0 : (⟨#[35]⟩ : ByteArray).size = 1 := rfl
    have z0 := digits_len m
    have z1 : ¬ 9223372036854775807 < x.p.size + 1 := by omega
    have z2 : ¬ 9223372036854775807 < x.p.size + 1 + (toB (digits m)).size := by rw [toB_size]; omega
    have z3 : ¬ 9223372036854775807 < (x.p ++ ⟨#[35]⟩).size + (toB (digits m)).size := by rw [toB_size, ByteArray.size_append, hs0]; omega
    have CI := Lib.hid (fun W (h : Below w.heap.size w W) (hT : Nums W) => itoa_any m W hT hm2)
    clear hv hk hn hm2
    obtain ⟨p, n⟩ := x
    simp only at *
    subst hm
    unfold Im.val at CR ⊢
    simp only at CR ⊢
    have c0 := id_c0 HX.out
    have c1 := id_c1 HX.out
    go_enter Tryd.func18, Tryd.ntmps18
    go_wp2_with fail
    generalize (w.alloc (.cells #[.string p, .int .i64 (m : Int)] 23)) = wb at *
    refine CR.out.mono ?_
    rintro e w1 ⟨rfl, hb⟩
    have HF := Lib.hid (HB.out.trans (hb.mono HB.out.size))
    have hx1 := HX.out.on hb
    have d0 := id_c0 hx1
    have d1 := id_c1 hx1
    have HT1 := Lib.hid (HT.out.on hb)
    have C2 : Hid (Calls Tryd.prog 31 #[.int .i64 (m : Int)] w1.drew fun e w' => e = .returned (.string (toB (digits m))) ∧ Below w1.drew.heap.size w1.drew w') := CI.out _ HF.out.drew (HT1.out.on (Below.refl _ _).drew)
    clear hb CR c0 c1 hx1 CI hs0
    -- @P1
    go_wp2_with fail
    go_region_held3 (fun w' => w'.cell? ⟨w.heap.size, 0, none⟩ = some (.string p) ∧ w'.cell? ⟨w.heap.size, 1, none⟩ = some (.int .i64 (m : Int))) (first | exact ⟨d0, d1⟩ | exact ⟨cell_on2 d0 hb7, cell_on2 d1 hb7⟩ | (go_keep; done)) (first | (go_at_call 31; refine C2.out.mono ?_; rintro e w7 ⟨rfl, hb7⟩))
    all_goals
      have HF2 := Lib.hid (HF.out.trans ((below_dr hb7).mono HF.out.size))
      clear hb7
      go_wp2
      go_ret
      exact ⟨rfl, HF2.out⟩
end Go.Proofs.YtideldgblafhlaaDoor
namespace Go.Proofs.YtideldgblafhlaaDoor
open Go.RowKit
set_option linter.unusedVariables false

theorem owns_grown {w w' : World} {B : Nat} {v : Value} {ls : List (List UInt8)} {row : Option Nat} (h : OwnS w B v ls) (hg : w.grownBy w' row) (hr : ∀ k, v.ownBlock = some k → row ≠ some k) : OwnS w' B v ls :=
  World.ownsRow.kept h (row := row) hg (by
    cases e : v.ownBlock with
    | none => simp
    | some k => have := hr k e; simpa using fun h => this h.symm)
theorem owns_in {w : World} {B : Nat} {v : Value} {ls : List (List UInt8)} (h : OwnS w B v ls) : ∀ k, v.ownBlock = some k → B ≤ k ∧ k < w.heap.size := fun k hk => World.ownsRow.lt h k hk
/-- An operation's rows are of the call's own. -/
structure Om.Sep (z : Om) (w : World) (B : Nat) : Prop where
  dels : OwnId w B (.slice z.a1 z.dels.length z.c1) z.dels
  lines : OwnS w B (.slice z.a2 z.lines.length z.c2) z.lines
theorem Om.Sep.ok {z : Om} {w : World} {B : Nat} (h : z.Sep w B) : z.Ok w w.heap.size := ⟨h.dels.parts.2.1, h.dels.parts.2.2.1, h.lines.at_.1, h.lines.at_.2.1⟩
theorem Om.Sep.on {z : Om} {w w' : World} {B : Nat} (h : z.Sep w B) (hb : Below w.heap.size w w') : z.Sep w' B := ⟨h.dels.kept hb, h.lines.kept hb⟩
theorem Om.Sep.grown {z : Om} {w w' : World} {B g : Nat} (h : z.Sep w B) (hg : w.grownBy w' (some g)) (hB : g < B) : z.Sep w' B :=
  ⟨Rk.Own.grown h.dels hg (fun q hq e => by have h1 := h.dels.block q hq; simp only [Option.some.injEq] at e; omega), owns_grown h.lines hg (fun q hq e => by have h1 := (owns_in h.lines q hq).1; simp only [Option.some.injEq] at e; omega)⟩
section
variable {w W W' : World} {b g o1 o : Nat} {s s' : St} {z z' : Om}
end
end Go.Proofs.YtideldgblafhlaaDoor
namespace Go.Proofs.YtideldgblafhlaaDoor
open Go.RowKit
set_option linter.unusedVariables false

/-- Texts that are not far too many. -/
def light3B (ss : List ByteArray) : Bool := ss.all (fun s => decide (s.size ≤ 300)) && decide (ss.length ≤ 60)
theorem light3B_no {ss : List ByteArray} {k : Nat} (hk : k < ss.length) (h : 300 < ss[k].size) : light3B ss = false := by
  have : ¬ ss.all (fun s => decide (s.size ≤ 300)) = true := by
    rw [List.all_eq_true]
    intro ha
    have := ha ss[k] (List.getElem_mem _)
    simp at this
    omega
  unfold light3B
  rw [Bool.not_eq_true] at this
  rw [this]; simp
theorem light3B_yes {ss : List ByteArray} (h : ∀ j (hj : j < ss.length), ss[j].size ≤ 300) : light3B ss = decide (ss.length ≤ 60) := by
  unfold light3B
  have : ss.all (fun s => decide (s.size ≤ 300)) = true := by
    rw [List.all_eq_true]
    intro s hs
    obtain ⟨j, hj, rfl⟩ := List.getElem_of_mem hs
    simpa using h j hj
  rw [this]; simp
set_option maxRecDepth 100000 in
theorem light3_any (A : Option Addr) (ss : List ByteArray) (cap : Nat) (w : World) (hs : Strs w w.heap.size A ss) (hn : ss.length ≤ 9223372036854775807) :
    Calls Tryd.prog 29 #[.slice A ss.length cap] w fun e w' => e = .returned (.bool (light3B ss)) ∧ w = w' := by
  go_enter Tryd.func29, Tryd.ntmps29
  go_wp2
  go_loop [3] (fun i => ∃ k : Nat, k ≤ ss.length ∧ i = .int .i64 (k : Int) ∧ Hid (∀ j (hj : j < ss.length), j < k → ss[j].size ≤ 300)) (fun i => ss.length - (intOf i).toNat)
  case atStart => exact ⟨0, Nat.zero_le _, rfl, fun j _ h => absurd h (by omega)⟩
  case round =>
    obtain ⟨k, hk, rfl, hall⟩ := hrel
    by_cases hlt : k < ss.length
    · obtain ⟨g, off, rfl, hg, hc⟩ := hs.at_ hlt
      have hno := Lib.hid (light3B_no hlt)
      have hyes : Hid (((ss[k].size : Int) ≤ 300) → ∀ j (hj : j < ss.length), j < k + 1 → ss[j].size ≤ 300) := by
        intro h j hj hjk
        by_cases he : j = k
        · subst he; omega
        · exact hall.out j hj (by omega)
      generalize ss[k] = s at *
      clear hs hall
      by_cases h3 : 300 < s.size
      · have hno2 := Lib.hid (hno.out (by omega))
        clear hno hyes
        go_wp2
        go_ret
        rw [hno2.out]
        exact ⟨rfl, rfl⟩
      · have hyes2 := Lib.hid (hyes.out (by omega))
        clear hno hyes
        go_wp2
        go_round
        case rel => exact ⟨k + 1, by omega, by go_num, hyes2⟩
        case measure => simp [intOf]; omega
    · have hk2 : k = ss.length := by omega
      subst hk2
      have hy := Lib.hid (light3B_yes (fun j hj => hall.out j hj hj))
      clear hall
      go_wp2
      go_ret
      rw [hy.out]
      exact ⟨by simp; omega, rfl⟩
end Go.Proofs.YtideldgblafhlaaDoor
