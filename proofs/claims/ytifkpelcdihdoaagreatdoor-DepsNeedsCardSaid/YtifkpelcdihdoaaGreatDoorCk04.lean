/- What ids that come in hold. Operations plainly, as package op asks for them: their own parts, the parts that are formed; bytes read back. Arrays of five ids: held against each other, an element of one. Operations, and rows of five ids, handed back out of a variable. Words for memory: rows of strings; a builder kept while other blocks are made. package code's Reader: contracts of all its calls, over the block that it lies in. Ids handed back out of a variable. Package ident's Right. What the library's Itoa and Atoi read of the world: the powers of ten, two errors. Beside 'Below', draws that only grow: what the library's sort asks of a comparison. Package op: what stands while an operation is read, part by part. The statements' Light of layer 3 (other layers call it too). -/
import Derived.Deep.Slices
import Derived.Deep.Fields
import Derived.ChangeSame
import Derived.ChangeKeysEq
import Derived.Test.YtifkpelcdihdoaaGreatDoorProg
import Derived.WalkKit
import Derived.WalkSpells
import Derived.Handy
import Derived.Lib.Hide
import Derived.Shelf.Strings.BuilderK
import Derived.BigQuiet
import Derived.Deep.QuietTactic
import Derived.Lib.SmallJoins
import Derived.Lib.LaidTab
import Derived.Lib.ItoaMem
import Derived.Lib.QuietBelow
import Derived.Lib.AtoiAllCases
import Derived.Test.YtifkpelcdihdoaaGreatDoorShelf
import Derived.Deep.RegionHeld3
import Derived.Deep.CutRange
import Derived.Lib.AppendIntMem
import Derived.Deep.MidRow
import Derived.StillTailTactics
import Derived.Deep.AppendLies
import Derived.Test.YtifkpelcdihdoaaGreatDoorCk03
namespace Go.Proofs.YtifkpelcdihdoaaGreatDoor
open Go.ChangeShapes Go.WideShapes Go.RowKit
set_option linter.unusedVariables false

theorem listof_id {α : Type} {P : Nat → α → Prop} : ∀ (n : Nat), (∀ i, i < n → ∃ x, P i x) → ∃ l : List α, l.length = n ∧ ∀ j (hj : j < l.length), P j l[j]
  | 0, _ => ⟨[], rfl, fun j hj => absurd hj (by simp)⟩
  | n + 1, h => by
    obtain ⟨l, hl, hp⟩ := listof_id n fun i hi => h i (by omega)
    obtain ⟨x, hx⟩ := h n (by omega)
    refine ⟨l ++ [x], by simp [hl], fun j hj => ?_⟩
    by_cases hjl : j < l.length
    · rw [List.getElem_append_left hjl]
      exact hp j hjl
    · have e : j = l.length := by simp at hj; omega
      subst e
      rw [List.getElem_append_right (Nat.le_refl _)]
      simp only [Nat.sub_self, List.getElem_cons_zero]
      rw [hl]
      exact hx
set_option maxRecDepth 10000 in
theorem open_id {H : Type} {enc : TypeId × Value → H} {W : World} {fuel : Nat} {cs : List Value} {y : DataW H × List MemPlace} (hf : DataW.trod enc Tryz.prog W 0 (fun _ => true) true fuel 81 cs = some y) (hl : cs.length = 2) :
    ∃ h : Im, cs = [.string h.p, .int .i64 h.n] ∧ h.Ok := by
  obtain ⟨xs, n, _, _, _, hlen, hg⟩ := DataW.trod_struct Tryz.underlying81 hf
  match cs, hl with
  | [c0, c1], _ =>
    match xs, hlen with
    | [y0, y1], _ =>
      have g0 : DataW.trod enc Tryz.prog W 0 (fun _ => true) true n 9 [c0] = some y0 := hg 0 _ rfl
      have g1 : DataW.trod enc Tryz.prog W 0 (fun _ => true) true n 3 [c1] = some y1 := hg 1 _ rfl
      obtain ⟨s, hc0, _, w0⟩ := DataW.trod_string Tryz.underlying9 g0
      obtain rfl : c0 = .string s := by simpa using hc0
      have hw0 : s.size ≤ 9223372036854775807 := by unfold maxLen at w0; omega
      obtain ⟨k, hc, _, wk⟩ := DataW.trod_int Tryz.underlying3 g1
      obtain rfl : c1 = .int .i64 k := by simpa using hc
      have hw : -9223372036854775808 ≤ k ∧ k ≤ 9223372036854775807 := by simpa [Lit.wf, IntKind.min, IntKind.max, IntKind.signed, IntKind.bits] using wk
      exact ⟨⟨s, k⟩, rfl, hw0, hw⟩
theorem open_ids {H : Type} {enc : TypeId × Value → H} {W : World} {fuel : Nat} {v : Value} {y : DataW H × List MemPlace} (hf : DataW.trod enc Tryz.prog W 0 (fun _ => true) true fuel 82 [v] = some y) :
    ∃ (A : Option Addr) (hs : List Im) (cap : Nat), v = .slice A hs.length cap ∧ Ids W W.heap.size A hs ∧ hs.length ≤ 9223372036854775807 ∧ Room A hs.length cap := by
  have hlt := DataW.trod_lt fuel _ _ _ hf
  have hC : Tryz.prog.cellsOf 81 = 2 := by kernel_rfl
  rcases Go.Deep.open_slice Tryz.underlying82 hf with ⟨hcs, _⟩ | ⟨a, len, cap, m, n, D, Pl, hcs, _, hl, hm, hmm, hx, hi⟩
  · obtain rfl : v = .slice none 0 0 := by simpa using hcs
    exact ⟨none, [], 0, rfl, Rk.Row.nil, by simp, fun _ => rfl, Nat.le_refl _⟩
  · obtain rfl : v = .slice (some a) len cap := by simpa using hcs
    simp only [if_true] at hmm
    unfold maxLen at hm
    obtain ⟨b, off, spot⟩ := a
    have each : ∀ i, i < len → ∃ h : Im, (∀ j (u : Value), (idR.enc h)[j]? = some u → W.cell? ((⟨b, off, spot⟩ : Addr).add (i * 2 + j)) = some u) ∧ h.Ok := by
      intro i hil
      obtain ⟨cs', hc, ht'⟩ := hi i (by omega)
      rw [hC] at hc
      obtain ⟨_, hcl, hat⟩ := World.cells?_some hc
      obtain ⟨h, rfl, hok⟩ := open_id ht' hcl
      refine ⟨h, fun j u hj => ?_, hok⟩
      rw [← Go.Deep.add_add]
      have hj2 : j < 2 := (List.getElem?_eq_some_iff.1 hj).1
      rw [hat j hj2]
      exact hj
    obtain ⟨hs, hlen, hp⟩ := listof_id len each
    subst hlen
    refine ⟨some ⟨b, off, spot⟩, hs, cap, rfl, fun hpos => ?_, by omega, (fun e => by cases e), hl⟩
    have h0 := (hp 0 hpos).1 0 _ rfl
    have hspot : spot = none := by simpa [Addr.add] using World.cell?_spot h0
    subst hspot
    have e : ∀ i, (⟨b, off, none⟩ : Addr).add i = ⟨b, off + i, none⟩ := fun i => by unfold Addr.add; split <;> simp_all
    refine ⟨b, off, rfl, ?_, fun i u hu => ?_⟩
    · have h1 := (hp 0 hpos).1 0 _ rfl
      rw [e] at h1
      exact rec_cell_lt h1
    · have hi2 := (List.getElem?_eq_some_iff.1 hu).1
      rw [idR.cells_len] at hi2
      obtain ⟨j, r, hj, hr, rfl⟩ := idR.at_place hs hi2
      rw [idR.cells_get hs j hj r hr] at hu
      have h1 := (hp j hj).1 r u hu
      rw [e] at h1
      exact h1
end Go.Proofs.YtifkpelcdihdoaaGreatDoor
namespace Go.Proofs.YtifkpelcdihdoaaGreatDoor
open Go.RowKit
set_option linter.unusedVariables false

/-- The parts of an operation that its kind has, alone. -/
def ownedO (o : OpK) : OpK :=
  if o.kind = 1 ∨ o.kind = 2 ∨ o.kind = 3 then { OpK.zero with kind := o.kind, self := o.self, parent := o.parent, name := o.name }
  else if o.kind = 4 then { OpK.zero with kind := o.kind, self := o.self, parent := o.parent, name := o.name, dst := o.dst, dname := o.dname }
  else if o.kind = 5 then { OpK.zero with kind := o.kind, self := o.self, left := o.left, right := o.right, dels := o.dels, first := o.first, lines := o.lines }
  else OpK.zero
/-- May an id be a directory's, and a name in it? -/
def placedO (d : Ik) (n : List UInt8) : Bool := (noneI d || madeI d) && nameK n
def movedO (o : OpK) : Bool := (!decide (o.dst = o.parent) || !decide (o.dname = o.name)) && (placedO o.parent o.name && placedO o.dst o.dname)
def spannedO (o : OpK) : Bool := (decide (o.left = ([], 1)) || madeI o.left) && ((decide (o.right = ([], 2)) || madeI o.right) && (o.dels.all madeI && decide ((setI (o.left :: o.right :: o.dels)).length = (o.left :: o.right :: o.dels).length)))
def linedO (o : OpK) : Bool := (decide (0 < o.dels.length) || decide (0 < o.lines.length)) && (decide (0 ≤ o.first) && (decide (o.first ≤ 1048576) && decide (checkN (toBs o.lines) = 0)))
def formedO (o : OpK) : Bool :=
  if o.kind = 1 ∨ o.kind = 2 ∨ o.kind = 3 then madeI o.self && placedO o.parent o.name
  else if o.kind = 4 then madeI o.self && movedO o
  else if o.kind = 5 then madeI o.self && (decide (o.dels.length ≤ 2000) && (spannedO o && linedO o))
  else false
theorem insI_old {x : Ik} {l : List Ik} (h : x ∈ l) (hr : RiseI l) : (insI x l).length = l.length := by rw [insI_in hr h]
theorem insI_more {x : Ik} : ∀ {l : List Ik}, x ∉ l → (insI x l).length = l.length + 1
  | [], _ => rfl
  | y :: l, h => by
    unfold insI
    have hy : x ≠ y := fun e => h (by rw [e]; exact List.mem_cons_self ..)
    have hl : x ∉ l := fun e => h (List.mem_cons_of_mem _ e)
    have ih := insI_more hl
    split
    · rw [List.length_cons, List.length_cons, ih]
    · rw [if_neg (fun e => hy e.symm)]
      rfl
theorem snoc_rec {α : Type} {P : List α → Prop} (h0 : P []) (h1 : ∀ l x, P l → P (l ++ [x])) (l : List α) : P l := by
  rw [← List.reverse_reverse l]
  induction l.reverse with
  | nil => exact h0
  | cons x r ih =>
    rw [List.reverse_cons]
    exact h1 _ _ ih
theorem setI_nodup (l : List Ik) : (setI l).length = l.length ↔ l.Nodup := by
  induction l using snoc_rec with
  | h0 => simp [setI]
  | h1 l x ih =>
    rw [setI_snoc, List.length_append, List.length_singleton, List.nodup_append]
    by_cases h : x ∈ l
    · rw [insI_old ((mem_setI x l).2 h) (rise_setI l)]
      have := setI_len l
      constructor
      · intro e; omega
      · intro e
        exact absurd rfl (e.2.2 x h x (by simp))
    · rw [insI_more (fun e => h ((mem_setI x l).1 e))]
      constructor
      · intro e
        refine ⟨ih.1 (by omega), by simp, ?_⟩
        intro a ha b hb
        have hb2 : b = x := by simpa using hb
        rw [hb2]
        intro e2
        exact h (e2 ▸ ha)
      · intro e
        rw [ih.2 e.1]
theorem placed_or (d : Ik) (n : List UInt8) : placedO d n = (orI d 0 && nameK n) := by
  unfold placedO orI noneI zeroI
  rw [Bool.or_comm]
theorem spanned_iff (o : OpK) : spannedO o = (orI o.left 1 && (orI o.right 2 && (o.dels.all madeI && decide (o.left :: o.right :: o.dels).Nodup))) := by
  unfold spannedO orI
  rw [Bool.or_comm, Bool.or_comm (decide (o.right = ([], 2))), decide_eq_decide.2 (setI_nodup _)]
/-- An operation may be just if it has no parts but its own, and these are formed. -/
theorem may_parts (o : OpK) : mayO o = (decide (o = ownedO o) && formedO o) := by
  obtain ⟨k, sf, p, d, n, m, lf, r, ds, f, ls⟩ := o
  unfold mayO ownedO formedO
  simp only
  by_cases h1 : k = 1 ∨ k = 2 ∨ k = 3
  · rw [if_pos h1, if_pos h1]
    have h5 : k ≠ 5 := by omega
    have h4 : k ≠ 4 := by omega
    have hk : 1 ≤ k ∧ k ≤ 5 := by omega
    rw [if_neg h5, if_neg h4, decide_eq_true hk, placed_or]
    rw [Bool.eq_iff_iff]
    simp only [placeO, noneI, zeroI, OpK.zero, Bool.and_eq_true, decide_eq_true_eq, OpK.mk.injEq, true_and, and_true]
    grind
  · rw [if_neg h1, if_neg h1]
    by_cases h4 : k = 4
    · subst h4
      rw [if_pos rfl, if_pos rfl, if_neg (by decide), if_pos rfl]
      unfold movedO
      rw [placed_or, placed_or, Bool.eq_iff_iff]
      simp only [placeO, noneI, zeroI, OpK.zero, Bool.and_eq_true, Bool.or_eq_true, Bool.not_eq_true', decide_eq_true_eq, decide_eq_false_iff_not, OpK.mk.injEq, true_and]
      grind
    · rw [if_neg h4, if_neg h4]
      by_cases h5 : k = 5
      · subst h5
        rw [if_pos rfl, if_pos rfl, if_pos rfl, spanned_iff]
        unfold hunkO linedO
        rw [Bool.eq_iff_iff]
        simp only [noneI, zeroI, OpK.zero, Bool.and_eq_true, decide_eq_true_eq, OpK.mk.injEq, true_and, and_true]
        grind
      · rw [if_neg h5, if_neg h5, if_neg h5]
        have hk : ¬ (1 ≤ k ∧ k ≤ 5) := by omega
        rw [decide_eq_false hk]
        simp only [Bool.and_false, Bool.false_and, if_neg h4]
/-- Bytes read on: what is left, and the error. -/
abbrev St := List UInt8 × Int
def sText (s : St) : List UInt8 × St := if s.2 = 0 then ((rText s.1).1, ((rText s.1).2.2, (rText s.1).2.1)) else ([], s)
def sList (s : St) : List (List UInt8) × St := if s.2 = 0 then ((rList s.1).1, ((rList s.1).2.2, (rList s.1).2.1)) else ([], s)
theorem sText_text (s r : List UInt8) (h : s.length < 18446744073709551616) : sText (textB s ++ r, 0) = (s, (r, 0)) := by
  unfold sText
  rw [if_pos rfl, rText_text s r h]
theorem sList_list (l : List (List UInt8)) (r : List UInt8) (hl : l.length < 18446744073709551616) (h : ∀ s ∈ l, s.length < 18446744073709551616) : sList (listB l ++ r, 0) = (l, (r, 0)) := by
  unfold sList
  rw [if_pos rfl, rList_list l r hl h]
theorem okK_short {k : Ik} (h : okK k = true) : k.1.length ≤ 40 := by
  unfold okK okI at h
  split at h
  · rename_i e; rw [e]; exact Nat.zero_le _
  · exact name_len (Bool.and_eq_true_iff.1 h).1
end Go.Proofs.YtifkpelcdihdoaaGreatDoor
namespace Go.Proofs.YtifkpelcdihdoaaGreatDoor
open Go.RowKit
set_option linter.unusedVariables false

/-- The cells of five ids. -/
abbrev five (a b c d e : Im) : Array Value := #[.string a.p, .int .i64 a.n, .string b.p, .int .i64 b.n, .string c.p, .int .i64 c.n, .string d.p, .int .i64 d.n, .string e.p, .int .i64 e.n]
set_option maxRecDepth 100000 in
theorem in_id (x y : Im) (w : World) : (Op.equalIn 9999 81 (.agg #[.string x.p, .int .i64 x.n]) (.agg #[.string y.p, .int .i64 y.n])).run Tryz.prog w = .ok (decide (x = y)) w := by
  rw [im_eqb]
  cases h1 : (x.p.toList == y.p.toList) <;> cases h2 : (x.n == y.n) <;> simp [go_sem, h1, h2]
theorem info_id : ∃ i, Tryz.prog.info? 81 = some i := by
  cases h : Tryz.prog.info? 81 with
  | some i => exact ⟨i, rfl⟩
  | none => exact absurd h (by have h2 : (Tryz.prog.info? 81).isSome = true := by kernel_rfl
                               intro h3; rw [h3] at h2; cases h2)
theorem cells_id : Tryz.prog.cellsOf 81 = 2 := by kernel_rfl
set_option maxRecDepth 100000 in
theorem part_id (xs : Array Value) (k : Nat) (w : World) : (part 81 xs k).run Tryz.prog w = .ok (.agg (xs.extract k (k + 2))) w := by
  simp [part, go_sem]
set_option maxRecDepth 100000 in
theorem eql_ids5 (a b c d e a' b' c' d' e' : Im) (w : World) : (binOp .eql 149 (.agg (five a b c d e)) (.agg (five a' b' c' d' e'))).run Tryz.prog w = .ok (.bool (decide (a = a') && (decide (b = b') && (decide (c = c') && (decide (d = d') && decide (e = e')))))) w := by
  obtain ⟨i, hi⟩ := info_id
  rw [run_eql_struct, show (10000 : Nat) = 9999 + 1 from rfl, run_equalIn_array w 9999 _ _ Tryz.underlying149 hi, cells_id]
  have p0 : ∀ (a b c d e : Im), (five a b c d e).extract (0 * 2) (0 * 2 + 2) = #[.string a.p, .int .i64 a.n] := fun _ _ _ _ _ => rfl
  have p1 : ∀ (a b c d e : Im), (five a b c d e).extract (1 * 2) (1 * 2 + 2) = #[.string b.p, .int .i64 b.n] := fun _ _ _ _ _ => rfl
  have p2 : ∀ (a b c d e : Im), (five a b c d e).extract (2 * 2) (2 * 2 + 2) = #[.string c.p, .int .i64 c.n] := fun _ _ _ _ _ => rfl
  have p3 : ∀ (a b c d e : Im), (five a b c d e).extract (3 * 2) (3 * 2 + 2) = #[.string d.p, .int .i64 d.n] := fun _ _ _ _ _ => rfl
  have p4 : ∀ (a b c d e : Im), (five a b c d e).extract (4 * 2) (4 * 2 + 2) = #[.string e.p, .int .i64 e.n] := fun _ _ _ _ _ => rfl
  rw [show List.range 5 = [0, 1, 2, 3, 4] from rfl]
  simp only [Op.eqItems, Sem.run_bind, part_id, Result.andThen_ok, p0, in_id]
  by_cases h1 : a = a' <;> by_cases h2 : b = b' <;> by_cases h3 : c = c' <;> by_cases h4 : d = d' <;> by_cases h5 : e = e' <;> simp [h1, h2, h3, h4, h5, Sem.run_bind, part_id, p1, p2, p3, p4, in_id]
end Go.Proofs.YtifkpelcdihdoaaGreatDoor
namespace Go.Proofs.YtifkpelcdihdoaaGreatDoor
open Go.RowKit
set_option linter.unusedVariables false

theorem sized_op : (Tryz.prog.info? 84).map (·.size) = some 16 := by kernel_rfl
theorem sized_five : (Tryz.prog.info? 149).map (·.size) = some 10 := by kernel_rfl
theorem load_op {w : World} {g : Nat} {x : Om} (k : OpAt w g x) : (loadVar 84 ⟨g, 0, none⟩).run Tryz.prog w = .ok x.val w :=
  run_loadVar_row w g 84 84 x.cells.toArray (0, 0) _ k Tryz.underlying84 rfl sized_op
theorem ret_op {fn : Func} {p : Tmp} (h : fn.results = #[.cell p 84]) (tmps : Array Value) (w : World) (g : Nat) (x : Om) (hp : tmps.getD p undef = .pointer (some ⟨g, 0, none⟩)) (k : OpAt w g x) :
    (results fn tmps).run Tryz.prog w = .ok x.val w :=
  results_cell_row h tmps w g 84 x.cells.toArray (0, 0) _ hp k Tryz.underlying84 rfl sized_op
theorem ret_five {fn : Func} {p : Tmp} (h : fn.results = #[.cell p 149]) (tmps : Array Value) (w : World) (g : Nat) (a b c d e : Im) (hp : tmps.getD p undef = .pointer (some ⟨g, 0, none⟩)) (k : w.heap[g]? = some (.cells (five a b c d e) 149 (0, 0))) :
    (results fn tmps).run Tryz.prog w = .ok (.agg (five a b c d e)) w :=
  results_cell_row h tmps w g 149 (five a b c d e) (0, 0) _ hp k Tryz.underlying149 rfl sized_five
theorem op_box2 (w : World) (x y : Om) : Below w.heap.size w ((w.alloc (.cells #[.int .i64 x.kind, .string x.self.p, .int .i64 x.self.n, .string x.parent.p, .int .i64 x.parent.n, .string x.dst.p, .int .i64 x.dst.n, .string x.name, .string x.dname, .string x.left.p, .int .i64 x.left.n, .string x.right.p, .int .i64 x.right.n, .slice x.a1 x.dels.length x.c1, .int .i64 x.first, .slice x.a2 x.lines.length x.c2] 84)).alloc (.cells #[.int .i64 y.kind, .string y.self.p, .int .i64 y.self.n, .string y.parent.p, .int .i64 y.parent.n, .string y.dst.p, .int .i64 y.dst.n, .string y.name, .string y.dname, .string y.left.p, .int .i64 y.left.n, .string y.right.p, .int .i64 y.right.n, .slice y.a1 y.dels.length y.c1, .int .i64 y.first, .slice y.a2 y.lines.length y.c2] 84)) ∧
    OpAt ((w.alloc (.cells #[.int .i64 x.kind, .string x.self.p, .int .i64 x.self.n, .string x.parent.p, .int .i64 x.parent.n, .string x.dst.p, .int .i64 x.dst.n, .string x.name, .string x.dname, .string x.left.p, .int .i64 x.left.n, .string x.right.p, .int .i64 x.right.n, .slice x.a1 x.dels.length x.c1, .int .i64 x.first, .slice x.a2 x.lines.length x.c2] 84)).alloc (.cells #[.int .i64 y.kind, .string y.self.p, .int .i64 y.self.n, .string y.parent.p, .int .i64 y.parent.n, .string y.dst.p, .int .i64 y.dst.n, .string y.name, .string y.dname, .string y.left.p, .int .i64 y.left.n, .string y.right.p, .int .i64 y.right.n, .slice y.a1 y.dels.length y.c1, .int .i64 y.first, .slice y.a2 y.lines.length y.c2] 84)) w.heap.size x ∧ OpAt ((w.alloc (.cells #[.int .i64 x.kind, .string x.self.p, .int .i64 x.self.n, .string x.parent.p, .int .i64 x.parent.n, .string x.dst.p, .int .i64 x.dst.n, .string x.name, .string x.dname, .string x.left.p, .int .i64 x.left.n, .string x.right.p, .int .i64 x.right.n, .slice x.a1 x.dels.length x.c1, .int .i64 x.first, .slice x.a2 x.lines.length x.c2] 84)).alloc (.cells #[.int .i64 y.kind, .string y.self.p, .int .i64 y.self.n, .string y.parent.p, .int .i64 y.parent.n, .string y.dst.p, .int .i64 y.dst.n, .string y.name, .string y.dname, .string y.left.p, .int .i64 y.left.n, .string y.right.p, .int .i64 y.right.n, .slice y.a1 y.dels.length y.c1, .int .i64 y.first, .slice y.a2 y.lines.length y.c2] 84)) (w.heap.size + 1) y := by
  obtain ⟨b1, h1⟩ := op_box w x
  obtain ⟨b2, h2⟩ := op_box (w.alloc (.cells #[.int .i64 x.kind, .string x.self.p, .int .i64 x.self.n, .string x.parent.p, .int .i64 x.parent.n, .string x.dst.p, .int .i64 x.dst.n, .string x.name, .string x.dname, .string x.left.p, .int .i64 x.left.n, .string x.right.p, .int .i64 x.right.n, .slice x.a1 x.dels.length x.c1, .int .i64 x.first, .slice x.a2 x.lines.length x.c2] 84)) y
  refine ⟨b1.trans (b2.mono b1.size), h1.on b2, ?_⟩
  have e : (w.alloc (.cells #[.int .i64 x.kind, .string x.self.p, .int .i64 x.self.n, .string x.parent.p, .int .i64 x.parent.n, .string x.dst.p, .int .i64 x.dst.n, .string x.name, .string x.dname, .string x.left.p, .int .i64 x.left.n, .string x.right.p, .int .i64 x.right.n, .slice x.a1 x.dels.length x.c1, .int .i64 x.first, .slice x.a2 x.lines.length x.c2] 84)).heap.size = w.heap.size + 1 := by simp
  rw [e] at h2
  exact h2
theorem elem_ids : Tryz.prog.elem 82 = 81 := by kernel_rfl
theorem ids_und : Tryz.prog.underlying 82 = some (.slice (Tryz.prog.elem 82)) := by
  rw [elem_ids]
  exact Tryz.underlying82
/-- The place of an id in a row whose address is told by an equation (the row itself stays as it is written). -/
theorem id_indexAt {A : Option Addr} {b off n c k : Nat} (e : A = some ⟨b, off, none⟩) (hk : k < n) (W : World) : (Instr.indexAt 82 (.slice A n c) (.int .i64 (k : Int))).run Tryz.prog W = .ok (.pointer (some ⟨b, off + k * 2, none⟩)) W := by
  subst e
  obtain ⟨i, hi⟩ := info_id
  have hs : (sizeOf 81).run Tryz.prog W = .ok 2 W := by rw [run_sizeOf W hi, cells_id]
  rw [run_indexAt_slice (h := ids_und), if_pos (by omega), elem_ids, hs, Result.andThen_ok]
  have e2 : (⟨b, off, none⟩ : Addr).add ((k : Int).toNat * 2) = ⟨b, off + k * 2, none⟩ := by unfold Addr.add; split <;> simp_all
  rw [e2]
end Go.Proofs.YtifkpelcdihdoaaGreatDoor
namespace Go.Proofs.YtifkpelcdihdoaaGreatDoor
open Go.RowKit
set_option linter.unusedVariables false

/-- Strings lie at A, in a block that is a row of strings. -/
def StrRow (w : World) (A : Option Addr) (ss : List ByteArray) : Prop :=
  0 < ss.length → ∃ b off cur fz, A = some ⟨b, off, none⟩ ∧ w.heap[b]? = some (.cells cur 9 fz) ∧ ∀ j (h : j < ss.length), cur[off + j]? = some (.string ss[j])
/-- The bytes of strings, one behind the other. -/
def flat (ss : List ByteArray) : List UInt8 := (ss.map (·.data.toList)).flatten

theorem flat_take (ss : List ByteArray) (k : Nat) (h : k < ss.length) : flat (ss.take (k + 1)) = flat (ss.take k) ++ ss[k].data.toList := by
  unfold flat
  rw [List.take_succ_eq_append_getElem h, List.map_append, List.flatten_append]
  simp only [List.map_cons, List.map_nil, List.flatten_cons, List.flatten_nil, List.append_nil]
section
variable {w w' : World} {B B' : Nat} {A : Option Addr} {ss : List ByteArray}
theorem StrRow.at_ {k : Nat} (h : StrRow w A ss) (hk : k < ss.length) : ∃ b off, A = some ⟨b, off, none⟩ ∧ w.cell? ⟨b, off + k, none⟩ = some (.string ss[k]) := by
  obtain ⟨b, off, cur, fz, e, hb, hc⟩ := h (by omega)
  exact ⟨b, off, e, by rw [cell_of_row w b (off + k) cur _ fz hb]; exact hc k hk⟩
theorem StrRow.kept {b : Nat} {T : TypeId} {cs : Array Value} {fr : Nat × Nat} (h : StrRow w A ss) (hk : Lib.OthersKept 5 (some b) w w') (hb : w.heap[b]? = some (.cells cs T fr)) (hT : T ≠ 9) : StrRow w' A ss := fun hp => by
  obtain ⟨g, off, cur, fz, e, hg, hc⟩ := h hp
  refine ⟨g, off, cur, fz, e, hk g _ hg ?_ ?_, hc⟩
  · intro he
    have : g = b := by simpa using he
    subst this
    rw [hg] at hb
    simp only [Option.some.injEq, Obj.cells.injEq] at hb
    exact hT hb.2.1.symm
  · intro c f he
    simp only [Obj.cells.injEq] at he
    exact absurd he.2.1 (by decide)
end
end Go.Proofs.YtifkpelcdihdoaaGreatDoor
namespace Go.Proofs.YtifkpelcdihdoaaGreatDoor
open Go.RowKit
set_option linter.unusedVariables false

section
variable {w w' : World} {g : Nat} {l : List UInt8} {e : Int}
end
theorem grownBy_refl (w : World) (row : Option Nat) : w.grownBy w row := ⟨rfl, rfl, rfl, Nat.le_refl _, fun _ _ _ => rfl⟩
theorem grownBy_set (w : World) (g i : Nat) (u : Value) : w.grownBy (w.setCell ⟨g, i, none⟩ u) (some g) :=
  ⟨rfl, rfl, rfl, by simp [World.setCell], fun k _ hne => Below.heap_setCell w _ u k (fun e => hne (by simp [e]))⟩
end Go.Proofs.YtifkpelcdihdoaaGreatDoor
namespace Go.Proofs.YtifkpelcdihdoaaGreatDoor
open Go.RowKit
set_option linter.unusedVariables false

theorem sized_id : (Tryz.prog.info? 81).map (·.size) = some 2 := by kernel_rfl
theorem ret_id {fn : Func} {p : Tmp} (h : fn.results = #[.cell p 81]) (tmps : Array Value) (w : World) (g : Nat) (x : Im) (hp : tmps.getD p undef = .pointer (some ⟨g, 0, none⟩)) (k : IdAt w g x) :
    (results fn tmps).run Tryz.prog w = .ok (.agg #[.string x.p, .int .i64 x.n]) w :=
  results_cell_row h tmps w g 81 #[.string x.p, .int .i64 x.n] (0, 0) _ hp k Tryz.underlying81 rfl sized_id
end Go.Proofs.YtifkpelcdihdoaaGreatDoor
namespace Go.Proofs.YtifkpelcdihdoaaGreatDoor
open Go.RowKit
set_option linter.unusedVariables false

set_option maxHeartbeats 2000000 in
set_option maxRecDepth 100000 in
theorem idright_any (x : Im) (w : World) (ox : x.p.size ≤ 9223372036854775807) :
    Calls Tryz.prog 120 #[x.val] w fun e w' => e = .returned (.bool (okK x.key)) ∧ Below w.heap.size w w' := by
  obtain ⟨hb, hx⟩ := id_box w x
  unfold Im.val
  have HB := Lib.hid hb
  have HX := Lib.hid hx
  have CR := Lib.hid (fun w => right_any x.p w ox)
  have hk : Hid (okK x.key = if x.p = ⟨#[]⟩ then decide (0 ≤ x.n ∧ x.n ≤ 2) else rightB x.p && decide (0 ≤ x.n ∧ x.n ≤ 1048576)) := by
    show _ = _
    unfold okK okI Im.key
    simp only [toB_of]
    by_cases h : x.p = ⟨#[]⟩
    · rw [if_pos h, if_pos (by rw [h])]
    · rw [if_neg h, if_neg fun e => h (bytes_inj (by rw [e]))]
  rw [hk.out]
  clear hb hx hk
  obtain ⟨p, n⟩ := x
  simp only at *
  by_cases h : p = ⟨#[]⟩
  · subst h
    rw [if_pos rfl]
    have c0 := id_c0 HX.out
    have c1 := id_c1 HX.out
    by_cases h1 : 0 ≤ n
    · by_cases h2 : n ≤ 2
      · have hv : decide (0 ≤ n ∧ n ≤ 2) = true := decide_eq_true ⟨h1, h2⟩
        rw [hv]
        have h3 : n ≥ 0 := h1
        go_enter Tryz.func120, Tryz.ntmps120
        go_wp2
        go_ret
        exact ⟨rfl, HB.out⟩
      · have hv : decide (0 ≤ n ∧ n ≤ 2) = false := decide_eq_false fun h => h2 h.2
        rw [hv]
        have h3 : n ≥ 0 := h1
        go_enter Tryz.func120, Tryz.ntmps120
        go_wp2
        go_ret
        exact ⟨rfl, HB.out⟩
    · have hv : decide (0 ≤ n ∧ n ≤ 2) = false := decide_eq_false fun h => h1 h.1
      rw [hv]
      have h3 : ¬ n ≥ 0 := h1
      go_enter Tryz.func120, Tryz.ntmps120
      go_wp2
      go_ret
      exact ⟨rfl, HB.out⟩
  · rw [if_neg h]
    have h0 := str_ne_empty h
    clear h
    obtain ⟨b, hbr⟩ : ∃ b, rightB p = b := ⟨_, rfl⟩
    obtain ⟨r, hr⟩ : ∃ r, (rightB p && decide (0 ≤ n ∧ n ≤ 1048576)) = r := ⟨_, rfl⟩
    have HRES : Hid ((b = false → r = false) ∧ (b = true → r = decide (0 ≤ n ∧ n ≤ 1048576))) := by
      rw [← hr, hbr]
      exact ⟨fun e => by rw [e]; rfl, fun e => by rw [e]; rfl⟩
    rw [hr]
    rw [hbr] at CR
    clear hbr hr
    go_enter Tryz.func120, Tryz.ntmps120
    have c0 := id_c0 HX.out
    have c1 := id_c1 HX.out
    go_wp2_with fail
    generalize (w.alloc (.cells #[.string p, .int .i64 n] 81)) = wb at *
    refine (CR.out _).mono ?_
    rintro e w1 ⟨rfl, hb⟩
    have HF := Lib.hid (HB.out.trans (hb.mono HB.out.size))
    have hx1 := HX.out.on hb
    have d0 := id_c0 hx1
    have d1 := id_c1 hx1
    clear hb c0 c1 hx1 CR
    cases b
    · have hrr : Hid (r = false) := HRES.out.1 rfl
      clear HRES
      go_wp2
      go_ret
      rw [hrr.out]
      exact ⟨rfl, HF.out⟩
    · have hrr : Hid (r = decide (0 ≤ n ∧ n ≤ 1048576)) := HRES.out.2 rfl
      clear HRES
      by_cases h1 : 0 ≤ n
      · have h3 : n ≥ 0 := h1
        by_cases h2 : n ≤ 1048576
        · have hv : Hid (r = true) := hrr.out.trans (decide_eq_true ⟨h1, h2⟩)
          clear hrr
          go_wp2
          go_ret
          rw [hv.out]
          exact ⟨rfl, HF.out⟩
        · have hv : Hid (decide (n ≤ 1048576) = r) := (decide_eq_false h2).trans (hrr.out.trans (decide_eq_false fun h => h2 h.2)).symm
          clear hrr
          go_wp2
          go_ret
          rw [← hv.out]
          exact ⟨rfl, HF.out⟩
      · have hv : Hid (r = false) := hrr.out.trans (decide_eq_false fun h => h1 h.1)
        have h3 : ¬ n ≥ 0 := h1
        clear hrr
        go_wp2
        go_ret
        rw [hv.out]
        exact ⟨rfl, HF.out⟩
end Go.Proofs.YtifkpelcdihdoaaGreatDoor
namespace Go.Proofs.YtifkpelcdihdoaaGreatDoor
open Go.RowKit
set_option linter.unusedVariables false

/-- A value that an error variable may hold. -/
def ErrV (w : World) (g : Nat) : Prop := ∃ ev, w.cell? ⟨g, 0, none⟩ = some ev ∧ (ev = .nilIface ∨ ∃ te pe, ev = .iface te pe)
theorem ErrV.on {w w' : World} {g : Nat} (h : ErrV w g) (hb : Below w.heap.size w w') : ErrV w' g := by
  obtain ⟨ev, h1, h2⟩ := h
  exact ⟨ev, (hb.cell (p := ⟨g, 0, none⟩) (World.block_lt_of_cell? _ _ h1)).trans h1, h2⟩
end Go.Proofs.YtifkpelcdihdoaaGreatDoor
namespace Go.Proofs.YtifkpelcdihdoaaGreatDoor
open Go.RowKit
set_option linter.unusedVariables false

/-- Of what was there nothing has turned; the tape was asked on. -/
structure Bd (w w' : World) : Prop where
  b : Below w.heap.size w w'
  d : w.drawn ≤ w'.drawn
section
variable {w w' w2 : World}
theorem Bd.refl (w : World) : Bd w w := ⟨Below.refl _ _, Nat.le_refl _⟩
theorem Bd.trans (h : Bd w w') (k : Bd w' w2) : Bd w w2 := ⟨h.b.trans (k.b.mono h.b.size), Nat.le_trans h.d k.d⟩
theorem Bd.alloc (h : Bd w w') (o : Obj) : Bd w (w'.alloc o) := ⟨h.b.alloc h.b.size o, by simpa using h.d⟩
theorem Bd.drew (h : Bd w w') : Bd w w'.drew := ⟨h.b.drew, Nat.le_succ_of_le h.d⟩
theorem Bd.drewN (h : Bd w w') (n : Nat) : Bd w (w'.drewN n) := ⟨below_drewN h.b n, Nat.le_trans h.d (Nat.le_add_right _ _)⟩
theorem Bd.size (h : Bd w w') : w.heap.size ≤ w'.heap.size := h.b.size
theorem Bd.grow (h : Bd w w') : ∃ q os, w' = Sort.grow (w.drewN q) os := by
  obtain ⟨p, rfl⟩ := regrown_of_below h.b
  have hd : w.drawn ≤ p.d := h.d
  refine ⟨p.d - w.drawn, p.os, ?_⟩
  have e : redrawn w p.d = w.drewN (p.d - w.drawn) := by
    unfold redrawn World.drewN
    congr 1
    omega
  rw [e]
end
end Go.Proofs.YtifkpelcdihdoaaGreatDoor
namespace Go.Proofs.YtifkpelcdihdoaaGreatDoor
open Go.RowKit
set_option linter.unusedVariables false

/-- An array of five ids in a block. -/
def Arr (w : World) (g : Nat) (l : List Im) : Prop := w.heap[g]? = some (.cells (idR.cells l).toArray 149 (0, 0))
theorem Arr.lt {w : World} {g : Nat} {l : List Im} (h : Arr w g l) : g < w.heap.size := (Array.getElem?_eq_some_iff.1 h).1
theorem Arr.on {w w' : World} {g : Nat} {l : List Im} (h : Arr w g l) (hb : Below w.heap.size w w') : Arr w' g l := (hb.block g h.lt).trans h
theorem Arr.grown {w w' : World} {g : Nat} {l : List Im} {row : Option Nat} (h : Arr w g l) (hg : w.grownBy w' row) (hr : row ≠ some g) : Arr w' g l := (hg.block g h.lt (fun e => hr e.symm)).trans h
theorem Arr.fz {w : World} {g : Nat} {l : List Im} (h : Arr w g l) (i : Nat) : w.frozen? ⟨g, i, none⟩ = false := by
  have hk : w.heap[g]? = _ := h
  simp [World.frozen?, hk]
theorem Arr.cell {w : World} {g : Nat} {l : List Im} (h : Arr w g l) {j : Nat} (hj : j < l.length) : w.cell? ⟨g, j * 2, none⟩ = some (.string l[j].p) ∧ w.cell? ⟨g, j * 2 + 1, none⟩ = some (.int .i64 l[j].n) := by
  have hk : w.heap[g]? = _ := h
  have h0 := idR.cells_get l j hj 0 (by decide)
  have h1 := idR.cells_get l j hj 1 (by decide)
  constructor
  · simp only [World.cell?, hk]
    show (if _ then _ else _) = _
    simp
    exact h0
  · simp only [World.cell?, hk]
    show (if _ then _ else _) = _
    simp
    exact h1
theorem Arr.put {w : World} {g : Nat} {l : List Im} (h : Arr w g l) {j : Nat} (hj : j < l.length) (y : Im) : Arr ((w.setCell ⟨g, j * 2, none⟩ (.string y.p)).setCell ⟨g, j * 2 + 1, none⟩ (.int .i64 y.n)) g (l.set j y) := by
  have hk : w.heap[g]? = some (.cells (idR.cells l).toArray 149 (0, 0)) := h
  unfold Arr
  have hs : idR.cells (l.set j y) = Rk.over (idR.cells l) (j * idR.k) (idR.enc y) := Rk.cells_set l j y hj
  rw [hs]
  show _ = some (Obj.cells (((idR.cells l).set (j * 2) (.string y.p)).set (j * 2 + 1) (.int .i64 y.n)).toArray _ _)
  simp [World.setCell, Array.getElem?_modify, hk]
theorem owns_grown {w w' : World} {B : Nat} {v : Value} {ls : List (List UInt8)} {row : Option Nat} (h : OwnS w B v ls) (hg : w.grownBy w' row) (hr : ∀ k, v.ownBlock = some k → row ≠ some k) : OwnS w' B v ls :=
  World.ownsRow.kept h (row := row) hg (by
    cases e : v.ownBlock with
    | none => simp
    | some k => have := hr k e; simpa using fun h => this h.symm)
theorem owns_in {w : World} {B : Nat} {v : Value} {ls : List (List UInt8)} (h : OwnS w B v ls) : ∀ k, v.ownBlock = some k → B ≤ k ∧ k < w.heap.size := fun k hk => World.ownsRow.lt h k hk
/-- An operation's rows are of the call's own. -/
structure Om.Sep (z : Om) (w : World) (B : Nat) : Prop where
  dels : OwnId w B (.slice z.a1 z.dels.length z.c1) z.dels
  lines : OwnS w B (.slice z.a2 z.lines.length z.c2) z.lines
theorem Om.Sep.ok {z : Om} {w : World} {B : Nat} (h : z.Sep w B) : z.Ok w w.heap.size := ⟨h.dels.parts.2.1, h.dels.parts.2.2.1, h.lines.at_.1, h.lines.at_.2.1⟩
theorem Om.Sep.on {z : Om} {w w' : World} {B : Nat} (h : z.Sep w B) (hb : Below w.heap.size w w') : z.Sep w' B := ⟨h.dels.kept hb, h.lines.kept hb⟩
theorem Om.Sep.grown {z : Om} {w w' : World} {B g : Nat} (h : z.Sep w B) (hg : w.grownBy w' (some g)) (hB : g < B) : z.Sep w' B :=
  ⟨Rk.Own.grown h.dels hg (fun q hq e => by have h1 := h.dels.block q hq; simp only [Option.some.injEq] at e; omega), owns_grown h.lines hg (fun q hq e => by have h1 := (owns_in h.lines q hq).1; simp only [Option.some.injEq] at e; omega)⟩
theorem cell_same {w w' : World} {b i : Nat} (h : w'.heap[b]? = w.heap[b]?) : w'.cell? ⟨b, i, none⟩ = w.cell? ⟨b, i, none⟩ := by
  simp [World.cell?, h]
section
variable {w W W' : World} {b g o1 o : Nat} {s s' : St} {z z' : Om}
end
end Go.Proofs.YtifkpelcdihdoaaGreatDoor
namespace Go.Proofs.YtifkpelcdihdoaaGreatDoor
open Go.RowKit
set_option linter.unusedVariables false

/-- Texts that are not far too many. -/
def light3B (ss : List ByteArray) : Bool := ss.all (fun s => decide (s.size ≤ 300)) && decide (ss.length ≤ 60)
theorem light3B_no {ss : List ByteArray} {k : Nat} (hk : k < ss.length) (h : 300 < ss[k].size) : light3B ss = false := by
  have : ¬ ss.all (fun s => decide (s.size ≤ 300)) = true := by
    rw [List.all_eq_true]
    intro ha
    have := ha ss[k] (List.getElem_mem _)
    simp at this
    omega
  unfold light3B
  rw [Bool.not_eq_true] at this
  rw [this]; simp
theorem light3B_yes {ss : List ByteArray} (h : ∀ j (hj : j < ss.length), ss[j].size ≤ 300) : light3B ss = decide (ss.length ≤ 60) := by
  unfold light3B
  have : ss.all (fun s => decide (s.size ≤ 300)) = true := by
    rw [List.all_eq_true]
    intro s hs
    obtain ⟨j, hj, rfl⟩ := List.getElem_of_mem hs
    simpa using h j hj
  rw [this]; simp
theorem light3B_len {ss : List ByteArray} (h : light3B ss = true) : ss.length ≤ 60 := by
  unfold light3B at h
  simp at h
  exact h.2

set_option maxRecDepth 100000 in
theorem light3_any (A : Option Addr) (ss : List ByteArray) (cap : Nat) (w : World) (hs : Strs w w.heap.size A ss) (hn : ss.length ≤ 9223372036854775807) :
    Calls Tryz.prog 57 #[.slice A ss.length cap] w fun e w' => e = .returned (.bool (light3B ss)) ∧ w = w' := by
  go_enter Tryz.func57, Tryz.ntmps57
  go_wp2
  go_loop [3] (fun i => ∃ k : Nat, k ≤ ss.length ∧ i = .int .i64 (k : Int) ∧ Hid (∀ j (hj : j < ss.length), j < k → ss[j].size ≤ 300)) (fun i => ss.length - (intOf i).toNat)
  case atStart => exact ⟨0, Nat.zero_le _, rfl, fun j _ h => absurd h (by omega)⟩
  case round =>
    obtain ⟨k, hk, rfl, hall⟩ := hrel
    by_cases hlt : k < ss.length
    · obtain ⟨g, off, rfl, hg, hc⟩ := hs.at_ hlt
      have hno := Lib.hid (light3B_no hlt)
      have hyes : Hid (((ss[k].size : Int) ≤ 300) → ∀ j (hj : j < ss.length), j < k + 1 → ss[j].size ≤ 300) := by
        intro h j hj hjk
        by_cases he : j = k
        · subst he; omega
        · exact hall.out j hj (by omega)
      generalize ss[k] = s at *
      clear hs hall
      by_cases h3 : 300 < s.size
      · have hno2 := Lib.hid (hno.out (by omega))
        clear hno hyes
        go_wp2
        go_ret
        rw [hno2.out]
        exact ⟨rfl, rfl⟩
      · have hyes2 := Lib.hid (hyes.out (by omega))
        clear hno hyes
        go_wp2
        go_round
        case rel => exact ⟨k + 1, by omega, by go_num, hyes2⟩
        case measure => simp [intOf]; omega
    · have hk2 : k = ss.length := by omega
      subst hk2
      have hy := Lib.hid (light3B_yes (fun j hj => hall.out j hj hj))
      clear hall
      go_wp2
      go_ret
      rw [hy.out]
      exact ⟨by simp; omega, rfl⟩
end Go.Proofs.YtifkpelcdihdoaaGreatDoor
