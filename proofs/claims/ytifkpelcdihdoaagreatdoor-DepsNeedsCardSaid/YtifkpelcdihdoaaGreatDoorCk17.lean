/- A region that draws its order and makes blocks, none of which needs another: whichever comes first, the blocks are there behind it. The library's SortFunc at no patch, or one: it turns nothing. Words for memory: a map of the call's own whose keys are strings, its values any: looked up, stored into, gone through. Package deps: sets of texts in maps; the keys of a map, as a set. -/
import Derived.Deep.RegionHeld
import Derived.Test.YtifkpelcdihdoaaGreatDoorProg
import Derived.WalkKit
import Derived.WalkSpells
import Derived.Handy
import Derived.Lib.Hide
import Derived.Shelf.Strings.BuilderK
import Derived.BigQuiet
import Derived.Deep.QuietTactic
import Derived.Lib.AtoiAllCases
import Derived.Lib.ItoaMem
import Derived.Test.YtifkpelcdihdoaaGreatDoorShelf
import Derived.Deep.RegionHeld3
import Derived.Deep.CutRange
import Derived.Lib.AppendIntMem
import Derived.BigRegion
import Derived.Deep.RegionWith
import Derived.Lib.QuietBelow
import Derived.Deep.MidRow
import Derived.Test.YtifkpelcdihdoaaGreatDoorShelf2
import Derived.Maps.OwnSet
import Derived.Maps.RangeWalk
import Derived.StringKeys
import Derived.Laws.MakeOwn
import Derived.Test.YtifkpelcdihdoaaGreatDoorCk12
namespace Go.Proofs.YtifkpelcdihdoaaGreatDoor
open Go.RowKit
set_option linter.unusedVariables false

def upd {n : Nat} {α : Type} (u : Fin n → α) (j : Fin n) (x : α) : Fin n → α := fun k => if k = j then x else u k
theorem upd_same {n : Nat} {α : Type} (u : Fin n → α) (j : Fin n) (x : α) : upd u j x j = x := if_pos rfl
theorem upd_other {n : Nat} {α : Type} (u : Fin n → α) {j k : Fin n} (h : k ≠ j) (x : α) : upd u j x k = u k := if_neg h
/-- How many are still to be made. -/
def cntN : ∀ {n : Nat}, (Fin n → Option Nat) → Nat
  | 0, _ => 0
  | n + 1, u => (if (u 0).isNone then 1 else 0) + cntN (fun k : Fin n => u k.succ)
theorem cnt_upd : ∀ {n : Nat} (u : Fin n → Option Nat) (j : Fin n) (b : Nat), u j = none → cntN (upd u j (some b)) + 1 = cntN u
  | 0, _, j, _, _ => j.elim0
  | n + 1, u, j, b, h => by
    rcases Fin.eq_zero_or_eq_succ j with rfl | ⟨i, rfl⟩
    · have e1 : (fun k : Fin n => upd u 0 (some b) k.succ) = fun k => u k.succ := funext fun k => upd_other u (Fin.succ_ne_zero k) _
      unfold cntN
      rw [e1, upd_same, h]
      simp only [Option.isNone_some, Option.isNone_none, Bool.false_eq_true, if_false, if_true]
      omega
    · have e1 : (fun k : Fin n => upd u i.succ (some b) k.succ) = upd (fun k : Fin n => u k.succ) i (some b) := by
        funext k
        unfold upd
        by_cases e : k = i
        · subst e
          simp
        · have e2 : k.succ ≠ i.succ := fun h2 => e (Fin.succ_inj.1 h2)
          rw [if_neg e, if_neg e2]
      have e0 : upd u i.succ (some b) 0 = u 0 := upd_other u (Fin.succ_ne_zero i).symm _
      have ih := cnt_upd (fun k : Fin n => u k.succ) i b h
      unfold cntN
      rw [e1, e0]
      omega
theorem cnt_zero : ∀ {n : Nat} (u : Fin n → Option Nat), cntN u = 0 → ∀ j, (u j).isSome = true
  | 0, _, _, j => j.elim0
  | n + 1, u, h, j => by
    unfold cntN at h
    rcases Fin.eq_zero_or_eq_succ j with rfl | ⟨i, rfl⟩
    · cases e : u 0 with
      | none => rw [e] at h; simp at h
      | some b => rfl
    · exact cnt_zero (fun k : Fin n => u k.succ) (by omega) i
theorem cnt_pos : ∀ {n : Nat} (u : Fin n → Option Nat), 0 < cntN u → ∃ j, u j = none
  | 0, _, h => by simp [cntN] at h
  | n + 1, u, h => by
    cases e : u 0 with
    | none => exact ⟨0, e⟩
    | some b =>
      unfold cntN at h
      rw [e] at h
      obtain ⟨j, hj⟩ := cnt_pos (fun k : Fin n => u k.succ) (by simpa using h)
      exact ⟨j.succ, hj⟩
/-- What has been made so far lies there, each in a block of its own. -/
structure Grew {n : Nat} (W0 : World) (obj : Fin n → Obj) (u : Fin n → Option Nat) (W : World) : Prop where
  below : Below W0.heap.size W0 W
  at_ : ∀ j b, u j = some b → W0.heap.size ≤ b ∧ W.heap[b]? = some (obj j)
  ne : ∀ j k b, u j = some b → u k = some b → j = k
theorem Grew.step {n : Nat} {W0 W : World} {obj : Fin n → Obj} {u : Fin n → Option Nat} (h : Grew W0 obj u W) (j : Fin n) (hj : u j = none) : Grew W0 obj (upd u j (some W.heap.size)) (W.alloc (obj j)) := by
  have hal : Below W.heap.size W (W.alloc (obj j)) := (Below.refl _ _).alloc (Nat.le_refl _) _
  have hlt : ∀ k b, u k = some b → b < W.heap.size := fun k b hk => (Array.getElem?_eq_some_iff.1 (h.at_ k b hk).2).1
  refine ⟨h.below.trans (hal.mono h.below.size), fun k b hk => ?_, fun k l b hk hl => ?_⟩
  · by_cases e : k = j
    · subst e
      rw [upd_same] at hk
      cases hk
      exact ⟨h.below.size, heap_alloc_new W _⟩
    · rw [upd_other u e] at hk
      exact ⟨(h.at_ k b hk).1, (hal.block b (hlt k b hk)).trans (h.at_ k b hk).2⟩
  · by_cases e : k = j
    · by_cases e2 : l = j
      · rw [e, e2]
      · subst e
        rw [upd_same] at hk
        rw [upd_other u e2] at hl
        cases hk
        exact absurd (hlt l _ hl) (Nat.lt_irrefl _)
    · by_cases e2 : l = j
      · subst e2
        rw [upd_same] at hl
        rw [upd_other u e] at hk
        cases hl
        exact absurd (hlt k _ hk) (Nat.lt_irrefl _)
      · rw [upd_other u e] at hk
        rw [upd_other u e2] at hl
        exact h.ne k l b hk hl
/-- A region that draws its order, by states: whatever comes up leads to a state of one step less. -/
theorem any_orders {P : Program} {md : Region.Mode} {ops : Array Oper} {Q : Exit → Act → World → Prop} {S : World → Prop} {σ : Type} (fuel0 : Nat) (m : σ → Nat) (L : σ → Array Bool) (A : σ → Act) (I : σ → World → Prop) (hS : ∀ s W, I s W → S W)
    (hstep : ∀ s W, I s W → 0 < m s → Region.ready md ops (L s) ≠ [] ∧ ∀ i ∈ Region.ready md ops (L s), ∃ o, ops[i]? = some o ∧ ∀ K' : Act → World → Prop, (∀ s' W', I s' W' → m s' + 1 = m s → L s' = (L s).setIfInBounds i true → K' (A s') W') → if Region.wanted o (yielded ops (A s).tmps) = true then Oper.wp P o (A s) W K' Q else K' ((A s).put o.dst undef) W)
    (fin : ∀ s W, I s W → m s = 0 → wpAnyH P md ops Q S fuel0 (L s) (A s) W) : ∀ n s W, m s = n → I s W → wpAnyH P md ops Q S (n + fuel0) (L s) (A s) W := by
  intro n
  induction n with
  | zero =>
    intro s W hm hI
    rw [Nat.zero_add]
    exact fin s W hI hm
  | succ n ih =>
    intro s W hm hI
    obtain ⟨hne, hst⟩ := hstep s W hI (by omega)
    rw [Nat.succ_add]
    refine wpAnyH_all rfl hne fun i hi => ?_
    obtain ⟨o, ho, h⟩ := hst i hi
    refine wpOp_step ho fun K' hK => h K' fun s' W' hI' hm' hL => hK _ _ ⟨hS _ _ hI', ?_⟩
    rw [← hL]
    exact ih s' W' (by omega) hI'
end Go.Proofs.YtifkpelcdihdoaaGreatDoor
namespace Go.Proofs.YtifkpelcdihdoaaGreatDoor
open Go.RowKit
set_option linter.unusedVariables false

theorem dbits_any (n : Nat) (hn : n ≤ 1) (W : World) : Calls Tryz.prog 93 #[.int .u64 (n : Int)] W fun e w' => (∃ k : Int, e = .returned (.int .i64 k)) ∧ w' = W := by
  have h := Any.bits_Len (SlLaysF0.n15.bits (P := Tryz.prog) { Tryz.laysSortId with }) (n : Int) W (by omega) (by omega)
  refine h.mono ?_
  rintro e w' ⟨rfl, rfl⟩
  exact ⟨⟨_, rfl⟩, rfl⟩
set_option maxHeartbeats 2000000 in
set_option maxRecDepth 100000 in
theorem pinsert_few (p : Option Addr) (n cap : Nat) (hn : n ≤ 1) (fv : Value) (w : World) :
    Calls Tryz.prog 77 #[.slice p n cap, .int .i64 0, .int .i64 (n : Int), fv] w fun e w' => e = .returned (.tuple #[]) ∧ w' = w := by
  have h1 : ¬ ((1 : Int) < (n : Int)) := by omega
  go_enter Tryz.func77, Tryz.ntmps77
  go_wp2
  refine wp_loop_rounds 1 ?_
  rw [rounds_succ]
  go_wp2
  go_end0
  exact ⟨rfl, rfl⟩
set_option maxHeartbeats 2000000 in
set_option maxRecDepth 100000 in
theorem ppdq_few (p : Option Addr) (n cap : Nat) (hn : n ≤ 1) (lim : Int) (fv : Value) (w : World) :
    Calls Tryz.prog 103 #[.slice p n cap, .int .i64 0, .int .i64 (n : Int), .int .i64 lim, fv] w fun e w' => e = .returned (.tuple #[]) ∧ w' = w := by
  have h1 : ((n : Int) ≤ 12) := by omega
  have h2 : IntKind.i64.wrap ((n : Int) - 0) = (n : Int) := by rw [IntKind.wrap_i64]; omega
  have C := Lib.hid (pinsert_few p n cap hn fv w)
  go_enter Tryz.func103, Tryz.ntmps103
  go_wp2
  refine wp_loop_rounds 1 ?_
  rw [rounds_succ]
  go_wp2_with fail
  refine C.out.mono ?_
  rintro e w' ⟨rfl, h⟩
  subst h
  go_wp2
  (try simp only [Exit.inBlock, Exit.then])
  refine bodyPost_ret (results_none rfl _ _ _) rfl ?_
  exact ⟨rfl, rfl⟩
set_option maxHeartbeats 2000000 in
set_option maxRecDepth 100000 in
theorem psort_few (p : Option Addr) (n cap : Nat) (hn : n ≤ 1) (fv : Value) (w : World) :
    Calls Tryz.prog 86 #[.slice p n cap, fv] w fun e w' => e = .returned (.tuple #[]) ∧ w' = w := by
  have h2 : IntKind.u64.wrap (n : Int) = (n : Int) := by rw [IntKind.wrap_u64]; omega
  have C := Lib.hid (dbits_any n hn w)
  have C2 := Lib.hid (fun k => ppdq_few p n cap hn k fv w)
  go_enter Tryz.func86, Tryz.ntmps86
  go_wp2_with fail
  refine C.out.mono ?_
  rintro e w' ⟨⟨k, rfl⟩, h⟩
  subst h
  go_wp2_with fail
  refine (C2.out k).mono ?_
  rintro e w' ⟨rfl, h⟩
  subst h
  go_wp2
  go_end0
  exact ⟨rfl, rfl⟩
end Go.Proofs.YtifkpelcdihdoaaGreatDoor
namespace Go.Proofs.YtifkpelcdihdoaaGreatDoor
open Go.RowKit
open Go.Maps (Keyed IsMap)
set_option linter.unusedVariables false

/-- A value tells itself. -/
def asIs (v : Value) : Option (DataW Value × List MemPlace) := some (.held v, [])
theorem asIs_inv {v u : Value} {ps : List MemPlace} (h : asIs v = some (.held u, ps)) : v = u := by
  unfold asIs at h
  simp only [Option.some.injEq, Prod.mk.injEq, DataW.held.injEq] at h
  exact h.1
theorem strK : Keyed Tryz.prog 9 := Go.Maps.string_keyed Tryz.underlying9
def sLit (s : ByteArray) : Lit := .string s.data.toList
theorem sLit_is {s : ByteArray} (hs : s.size ≤ 9223372036854775807) : keyOf Tryz.prog 9 (.string s) = some (sLit s) := Go.WideMaps.keyOf_string_mk Tryz.underlying9 (by unfold maxLen; omega)
theorem sLit_key {s : ByteArray} (hs : s.size ≤ 9223372036854775807) : WideAt.IsKeyLit (sLit s) := strK.key (sLit_is hs)
theorem sLit_inj {s t : ByteArray} (h : sLit s = sLit t) : s = t := by
  unfold sLit at h
  simp only [Lit.string.injEq] at h
  exact bytes_inj h
/-- What a map's datum says of keys. -/
def TellsS (D : DataW Value) (f : ByteArray → Option Value) : Prop := ∀ s, Maps.has D (sLit s) = (f s).isSome ∧ ∀ v, f s = some v → ∀ z, D.atKey (sLit s) z = .held v
/-- Block b is a map of at most m strings that has these values. -/
def StrMap (w : World) (b m : Nat) (f : ByteArray → Option Value) : Prop := ∃ (n : Nat) (D : DataW Value), n ≤ m ∧ w.ownsMap Tryz.prog 9 asIs b n D ∧ TellsS D f
theorem StrMap.made (w : World) : StrMap (w.alloc (.map #[] 0)) w.heap.size 0 (fun _ => none) :=
  ⟨0, .map [], Nat.le_refl _, World.ownsMap_made _ _ _ _, fun s => ⟨by simp [Maps.has_eq], fun v h => by cases h⟩⟩
theorem StrMap.lt {w : World} {b m : Nat} {f : ByteArray → Option Value} (h : StrMap w b m f) : b < w.heap.size := by
  obtain ⟨n, D, _, ho, _⟩ := h
  exact ho.lt
theorem StrMap.grown {w w' : World} {b m : Nat} {f : ByteArray → Option Value} {row : Option Nat} (h : StrMap w b m f) (hg : w.grownBy w' row) (hr : row ≠ some b) : StrMap w' b m f := by
  obtain ⟨n, D, hn, ho, hh⟩ := h
  exact ⟨n, D, hn, ho.kept hg (fun e => hr e.symm), hh⟩
theorem StrMap.on {w w' : World} {b m : Nat} {f : ByteArray → Option Value} (h : StrMap w b m f) (hb : Below w.heap.size w w') : StrMap w' b m f :=
  h.grown (row := none) ⟨hb.os, hb.tape, hb.output, hb.size, fun i hi _ => hb.block i hi⟩ (by simp)
theorem StrMap.ne_cells {w : World} {b m g : Nat} {f : ByteArray → Option Value} {cs : Array Value} {t : TypeId} {fr : Nat × Nat} (h : StrMap w b m f) (hg : w.heap[g]? = some (.cells cs t fr)) : b ≠ g := by
  obtain ⟨n, D, _, ⟨es, clock, hb, _⟩, _⟩ := h
  rintro rfl
  rw [hg] at hb
  cases hb
theorem StrMap.ne_cell {w : World} {b m g o : Nat} {f : ByteArray → Option Value} {u : Value} (h : StrMap w b m f) (hc : w.cell? ⟨g, o, none⟩ = some u) : b ≠ g := by
  obtain ⟨n, D, _, ⟨es, clock, hb, _⟩, _⟩ := h
  rintro rfl
  unfold World.cell? at hc
  simp [hb] at hc
/-- What is no map stays while a map is written. -/
theorem StrMap.cell {w w' : World} {b m g o : Nat} {f : ByteArray → Option Value} {u : Value} (h : StrMap w b m f) (hg : w.grownBy w' (some b)) (hc : w.cell? ⟨g, o, none⟩ = some u) : w'.cell? ⟨g, o, none⟩ = some u := by
  have h1 := h.ne_cell hc
  have h2 := hg.block g (World.block_lt_of_cell? _ _ hc) (fun e => h1 (by injection e with e; exact e.symm))
  unfold World.cell? at hc ⊢
  rw [h2]
  exact hc
theorem tells_put {D : DataW Value} {f : ByteArray → Option Value} (hD : IsMap D) (h : TellsS D f) {s : ByteArray} (hs : s.size ≤ 9223372036854775807) (v : Value) : TellsS (D.put (sLit s) (.held v)) (fun t => if t = s then some v else f t) := fun t => by
  by_cases e : t = s
  · subst e
    refine ⟨?_, fun u hu z => ?_⟩
    · show _ = (if t = t then some v else f t).isSome
      rw [if_pos rfl]
      exact Maps.has_put_same hD (sLit_key hs) _
    · have hu2 : (if t = t then some v else f t) = some u := hu
      rw [if_pos rfl] at hu2
      cases hu2
      exact Maps.atKey_put_same hD (sLit_key hs) _ _
  · have hne : sLit t ≠ sLit s := fun h2 => e (sLit_inj h2)
    refine ⟨?_, fun u hu z => ?_⟩
    · show _ = (if t = s then some v else f t).isSome
      rw [if_neg e, Maps.has_put_other hne]
      exact (h t).1
    · have hu2 : (if t = s then some v else f t) = some u := hu
      rw [if_neg e] at hu2
      rw [Maps.atKey_put_other hne]
      exact (h t).2 u hu2 z
section
variable {w : World} {ops : Array Oper} {rest : List Oper} {o : Oper} {a : Act} {Q : Exit → Act → World → Prop} (t e : TypeId) (ht : Tryz.prog.underlying t = some (.map 9 e))
include ht
/-- m[s] = v. -/
theorem wpList_put_str (hg : o.guard = none) (m x v : Operand) (hop : o.op = Op.mapUpdate t m x v) (b n : Nat) (f : ByteArray → Option Value) (s : ByteArray) (u : Value)
    (hm : a.eval m = .map (some b)) (hx : a.eval x = .string s) (hv : a.eval v = u) (hs : StrMap w b n f) (hz : s.size ≤ 9223372036854775807) (hn : n ≤ 1000000000000)
    (hK : ∀ w', StrMap w' b (n + 1) (fun t => if t = s then some u else f t) → w.grownBy w' (some b) → wpList Tryz.prog ops Q rest (a.put o.dst undef) w') : wpList Tryz.prog ops Q (o :: rest) a w := by
  obtain ⟨n0, D, hn0, ho, hh⟩ := hs
  refine wpList_mapUpdate_own w hg m x v _ hop _ _ strK ht asIs b n0 D hm ho (by unfold maxLen; omega) _ _ (sLit s) hx hv (sLit_is hz) (.held u) [] rfl ?_
  intro w' h1 h2
  exact hK w' ⟨n0 + 1, _, by omega, h1, tells_put ho.isMap hh hz u⟩ h2
/-- v, ok := m[s]. -/
theorem wpList_look_str (hg : o.guard = none) (m x : Operand) (hop : o.op = Op.lookup t m x true) {z : Value} (hzero : (zeroValue e).run Tryz.prog w = .ok z w) (b n : Nat) (f : ByteArray → Option Value) (s : ByteArray)
    (hm : a.eval m = .map (some b)) (hx : a.eval x = .string s) (hs : StrMap w b n f) (hz : s.size ≤ 9223372036854775807) (r : Option Value) (hr : f s = r)
    (hK : wpList Tryz.prog ops Q rest (a.put o.dst (.tuple #[r.getD z, .bool r.isSome])) w) : wpList Tryz.prog ops Q (o :: rest) a w := by
  obtain ⟨n0, D, hn0, ho, hh⟩ := hs
  refine wpList_lookup_own_ok w hg m x _ hop _ _ strK ht asIs hzero (.held z) [] rfl b n0 D hm ho _ (sLit s) hx (sLit_is hz) ?_
  intro v ps hv
  obtain ⟨h1, h2⟩ := hh s
  rw [h1, hr]
  cases r with
  | none =>
    rw [hr] at h1
    rw [Maps.atKey_of_not_has h1] at hv
    rw [asIs_inv hv]
    exact hK
  | some u =>
    rw [h2 u hr] at hv
    rw [asIs_inv hv]
    exact hK
end
/-- len(m): at most so many. -/
theorem wpList_len_str {w : World} {ops : Array Oper} {rest : List Oper} {o : Oper} {a : Act} {Q : Exit → Act → World → Prop} (t e : TypeId) (ht : Tryz.prog.underlying t = some (.map 9 e)) (hg : o.guard = none) (m : Operand) (hop : o.op = Op.call { callee := Callee.builtin Builtin.len, args := #[m], argTypes := #[t] })
    (b n : Nat) (f : ByteArray → Option Value) (hm : a.eval m = .map (some b)) (hs : StrMap w b n f)
    (hK : ∀ k : Nat, k ≤ n → wpList Tryz.prog ops Q rest (a.put o.dst (.int .i64 (k : Int))) w) : wpList Tryz.prog ops Q (o :: rest) a w := by
  obtain ⟨n0, D, hn0, ho, hh⟩ := hs
  refine wpList_len_own w hg m t hop _ _ ht asIs b n0 D hm ho ?_
  exact hK _ (Nat.le_trans ho.size_le hn0)
/-- One key fewer. -/
def strike (left : List (List UInt8)) (s : List UInt8) : List (List UInt8) := left.filter fun t => decide (t ≠ s)
theorem mem_strike {left : List (List UInt8)} {s x : List UInt8} : x ∈ strike left s ↔ x ∈ left ∧ x ≠ s := by simp [strike]
/-- A map gone through: these keys are still to come, so many. -/
def StrLeft (w : World) (b r m : Nat) (f : ByteArray → Option Value) (left : List (List UInt8)) (cnt : Nat) : Prop := ∃ (n : Nat) (D : DataW Value) (lf : Lit → Bool), n ≤ m ∧ w.ranges Tryz.prog 9 asIs b r n D lf cnt ∧ TellsS D f ∧ ∀ s : ByteArray, lf (sLit s) = decide (s.data.toList ∈ left)
theorem StrLeft.map {w : World} {b r m : Nat} {f : ByteArray → Option Value} {left : List (List UInt8)} {cnt : Nat} (h : StrLeft w b r m f left cnt) : StrMap w b m f := by
  obtain ⟨n, D, lf, hn, hr, ht, _⟩ := h
  exact ⟨n, D, hn, hr.owns, ht⟩
theorem StrLeft.eq {w : World} {b r m : Nat} {f : ByteArray → Option Value} {left : List (List UInt8)} {cnt : Nat} (h : StrLeft w b r m f left cnt) : w.rangeLeft b r = cnt := by
  obtain ⟨n, D, lf, hn, hr, ht, _⟩ := h
  exact hr.left_eq
theorem StrLeft.lt {w : World} {b r m : Nat} {f : ByteArray → Option Value} {left : List (List UInt8)} {cnt : Nat} (h : StrLeft w b r m f left cnt) : r < w.heap.size := by
  obtain ⟨n, D, lf, hn, hr, ht, _⟩ := h
  exact hr.lt
theorem StrLeft.ne_cells {w : World} {b r m g : Nat} {f : ByteArray → Option Value} {left : List (List UInt8)} {cnt : Nat} {cs : Array Value} {t : TypeId} {fr : Nat × Nat} (h : StrLeft w b r m f left cnt) (hg : w.heap[g]? = some (.cells cs t fr)) : r ≠ g := by
  obtain ⟨n, D, lf, hn, ⟨es, clock, since, seen, c0, _, _, _, _, hr, _⟩, _, _⟩ := h
  rintro rfl
  rw [hg] at hr
  cases hr
theorem StrLeft.grown {w w' : World} {b r m : Nat} {f : ByteArray → Option Value} {left : List (List UInt8)} {cnt : Nat} {row : Option Nat} (h : StrLeft w b r m f left cnt) (hg : w.grownBy w' row) (hb : row ≠ some b) (hr : row ≠ some r) : StrLeft w' b r m f left cnt := by
  obtain ⟨n, D, lf, hn, h1, ht, hl⟩ := h
  exact ⟨n, D, lf, hn, h1.kept hg (fun e => hb e.symm) (fun e => hr e.symm), ht, hl⟩
theorem StrLeft.on {w w' : World} {b r m : Nat} {f : ByteArray → Option Value} {left : List (List UInt8)} {cnt : Nat} (h : StrLeft w b r m f left cnt) (hb : Below w.heap.size w w') : StrLeft w' b r m f left cnt :=
  h.grown (row := none) ⟨hb.os, hb.tape, hb.output, hb.size, fun i hi _ => hb.block i hi⟩ (by simp) (by simp)
theorem str_of_key {key : Value} {kl : Lit} (h : keyOf Tryz.prog 9 key = some kl) : ∃ s : ByteArray, key = .string s ∧ kl = sLit s ∧ s.size ≤ 9223372036854775807 := by
  obtain ⟨s, h1, h2, h3⟩ := Go.WideMaps.string_of_keyOf Tryz.underlying9 h
  exact ⟨s, h1, h2, by unfold maxLen at h3; omega⟩
section
variable {w : World} {ops : Array Oper} {rest : List Oper} {o : Oper} {a : Act} {Q : Exit → Act → World → Prop}
/-- range m: the keys that have a value are to come. -/
theorem wpList_range_str (t e : TypeId) (ht : Tryz.prog.underlying t = some (.map 9 e)) (hg : o.guard = none) (m : Operand) (hop : o.op = Op.range t m) (b n : Nat) (f : ByteArray → Option Value) (left : List (List UInt8))
    (hm : a.eval m = .map (some b)) (hs : StrMap w b n f) (hl : ∀ s : ByteArray, s.data.toList ∈ left ↔ (f s).isSome = true)
    (hK : ∀ w' cnt, cnt ≤ n → StrLeft w' b w.heap.size n f left cnt → w.grownBy w' none → w'.heap.size = w.heap.size + 1 → wpList Tryz.prog ops Q rest (a.put o.dst (.pointer (some ⟨w.heap.size, 0, none⟩))) w') : wpList Tryz.prog ops Q (o :: rest) a w := by
  obtain ⟨n0, D, hn0, ho, hh⟩ := hs
  refine wpList_range_own w hg m t hop _ _ strK ht asIs b n0 D hm ho ?_
  intro w' h1 h2 h3
  refine hK w' _ (Nat.le_trans ho.size_le hn0) ⟨n0, D, _, hn0, h1, hh, fun s => ?_⟩ h2 h3
  rw [(hh s).1]
  by_cases e : (f s).isSome = true
  · rw [e, decide_eq_true ((hl s).2 e)]
  · rw [decide_eq_false (fun h => e ((hl s).1 h))]
    simpa using e
/-- The step: no key is left; or some key is, with its value. -/
theorem wpList_next_str (hg : o.guard = none) (it : Operand) (hop : o.op = Op.next it false) (b r n : Nat) (f : ByteArray → Option Value) (left : List (List UInt8)) (cnt : Nat)
    (hit : a.eval it = .pointer (some ⟨r, 0, none⟩)) (h : StrLeft w b r n f left cnt)
    (hDone : left = [] → wpList Tryz.prog ops Q rest (a.put o.dst (.tuple #[.bool false])) w)
    (hMore : ∀ (s : ByteArray) (v : Value) (w' : World) (cnt' : Nat), cnt' < cnt → s.data.toList ∈ left → f s = some v → s.size ≤ 9223372036854775807 → StrLeft w' b r n f (strike left s.data.toList) cnt' → w.grownBy w' (some r) → w'.heap.size = w.heap.size →
      (Instr.entry (.pointer (some ⟨r, 0, none⟩))).run Tryz.prog w' = .ok (.tuple #[.string s, v]) w' → wpList Tryz.prog ops Q rest (a.put o.dst (.tuple #[.bool true, .string s, v])) w') : wpList Tryz.prog ops Q (o :: rest) a w := by
  obtain ⟨n0, D, lf, hn0, hr, hh, hl⟩ := h
  refine wpList_next_ranges w hg it hop _ strK asIs Value.string (fun v : Value => v) (fun key kl hk => ?_) (fun v y _ => ⟨v, rfl⟩) b r n0 D lf cnt hit hr ?_ ?_
  · obtain ⟨s, h1, _⟩ := str_of_key hk
    exact ⟨s, h1⟩
  · intro _ hno
    refine hDone (List.eq_nil_iff_forall_not_mem.2 fun s hs => ?_)
    have h1 := hl (toB s)
    rw [of_toB, hno, decide_eq_true hs] at h1
    cases h1
  · intro s v kl y w' cnt' hk hlk hv hat hrg hlt hgr hsz hen
    obtain ⟨s', e1, rfl, hz⟩ := str_of_key hk
    cases e1
    have hin : s.data.toList ∈ left := by have h1 := hl s; rw [hlk] at h1; exact of_decide_eq_true h1.symm
    have hy : y = (.held v, []) := by unfold asIs at hv; exact (Option.some.inj hv).symm
    have hf : f s = some v := by
      have h1 : Maps.has D (sLit s) = true := Maps.has_true_of_atKey hat
      rw [(hh s).1] at h1
      obtain ⟨u, hu⟩ := Option.isSome_iff_exists.1 h1
      have h2 := (hh s).2 u hu (.held u)
      rw [hat, hy] at h2
      simp only [DataW.held.injEq] at h2
      rw [hu, h2]
    refine hMore s v w' cnt' hlt hin hf hz ⟨n0, D, _, hn0, hrg, hh, fun t => ?_⟩ hgr hsz hen
    show (lf (sLit t) && !(sLit t).sameKey (sLit s)) = _
    rw [hl t]
    by_cases e : t = s
    · subst e
      rw [WideAt.sameKey_self (sLit_key hz)]
      simp [strike]
    · have e2 : t.data.toList ≠ s.data.toList := fun h2 => e (bytes_inj h2)
      rw [Maps.sameKey_ne (fun h2 => e (sLit_inj h2))]
      simp [strike, e2]
end
end Go.Proofs.YtifkpelcdihdoaaGreatDoor
namespace Go.Proofs.YtifkpelcdihdoaaGreatDoor
open Go.RowKit
set_option linter.unusedVariables false

/-- A set of texts, as what a map has. -/
def setF (ls : List (List UInt8)) (s : ByteArray) : Option Value := if s.data.toList ∈ ls then some (.agg #[]) else none
theorem setF_nil : setF [] = fun _ => none := by
  funext s
  simp [setF]
theorem setF_put (ls : List (List UInt8)) (s : ByteArray) : (fun t => if t = s then some (Value.agg #[]) else setF ls t) = setF (ls ++ [s.data.toList]) := by
  funext t
  unfold setF
  by_cases e : t = s
  · subst e
    simp
  · have e2 : t.data.toList ≠ s.data.toList := fun h => e (bytes_inj h)
    simp [e, e2]
theorem setF_some (ls : List (List UInt8)) (s : ByteArray) : (setF ls s).isSome = decide (s.data.toList ∈ ls) := by
  unfold setF
  by_cases h : s.data.toList ∈ ls
  · simp [h]
  · simp [h]
/-- Block b is a map of these texts. -/
def SetM (w : World) (b m : Nat) (ls : List (List UInt8)) : Prop := StrMap w b m (setF ls)
/-- Block b is a map whose keys are these texts. -/
def NameM (w : World) (b m : Nat) (ls : List (List UInt8)) : Prop := ∃ f, StrMap w b m f ∧ ∀ s : ByteArray, (f s).isSome = decide (s.data.toList ∈ ls)
theorem SetM.names {w : World} {b m : Nat} {ls : List (List UInt8)} (h : SetM w b m ls) : NameM w b m ls := ⟨_, h, setF_some ls⟩
theorem own_cells {w : World} {B e size n : Nat} {v : Value} {xs : List Value} (h : w.ownsRow B e size v n xs) {g : Nat} (hg : v.ownBlock = some g) : ∃ cs t fr, w.heap[g]? = some (.cells cs t fr) := by
  rcases h.2 with ⟨rfl, _⟩ | ⟨q, cap, cur, rfl, _, hq, _⟩
  · cases hg
  · have e : q = g := by simpa [Value.ownBlock] using hg
    subst e
    exact ⟨_, _, _, hq⟩
theorem StrMap.beside {w w' : World} {b m : Nat} {f : ByteArray → Option Value} (h : StrMap w b m f) {B e size n : Nat} {v : Value} {xs : List Value} (ho : w.ownsRow B e size v n xs) (hg : w.grownBy w' v.ownBlock) : StrMap w' b m f :=
  h.grown hg fun hb => by
    obtain ⟨cs, t, fr, hc⟩ := own_cells ho hb
    exact h.ne_cells hc rfl
theorem StrLeft.beside {w w' : World} {b r m : Nat} {f : ByteArray → Option Value} {left : List (List UInt8)} {cnt : Nat} (h : StrLeft w b r m f left cnt) {B e size n : Nat} {v : Value} {xs : List Value} (ho : w.ownsRow B e size v n xs) (hg : w.grownBy w' v.ownBlock) : StrLeft w' b r m f left cnt :=
  h.grown hg (fun hb => by
    obtain ⟨cs, t, fr, hc⟩ := own_cells ho hb
    exact h.map.ne_cells hc rfl) (fun hb => by
    obtain ⟨cs, t, fr, hc⟩ := own_cells ho hb
    exact h.ne_cells hc rfl)
theorem mk_strs (w : World) (k : Nat) (hk : k ≤ 1000000) : ∃ w', (Instr.makeSlice 23 (.int .i64 0) (.int .i64 (k : Int))).run Tryz.prog w = .ok (.slice (some ⟨w.heap.size, 0, none⟩) 0 k) w' ∧ OwnS w' w.heap.size (.slice (some ⟨w.heap.size, 0, none⟩) 0 k) [] ∧ w.grownBy w' none := by
  obtain ⟨i0, hi, hz0, hz1, hz2⟩ := info_parts info_str
  exact run_make_own w w.heap.size 23 9 i0 _ 1 Tryz.underlying23 hi hz0 hz1 .i64 .i64 k (by rw [hz2]; omega) (by unfold maxLen; omega) (Nat.le_refl _)
theorem mk_map {t k e : TypeId} (ht : Tryz.prog.underlying t = some (.map k e)) (n : Int) (w : World) : (Instr.makeMap t (some (.int .i64 n))).run Tryz.prog w = .ok (.map (some w.heap.size)) (w.alloc (.map #[] 0)) := by
  simp [Instr.makeMap, run_underlying ht, asInt, asIntOf, Sem.run_bind, Result.andThen]
theorem mk_map0 (t : TypeId) (w : World) : (Instr.makeMap t none).run Tryz.prog w = .ok (.map (some w.heap.size)) (w.alloc (.map #[] 0)) := rfl
theorem below_none {w w' : World} (h : w.grownBy w' none) : Below w.heap.size w w' := ⟨h.os, h.tape, h.output, h.size, fun i hi => h.block i hi (by simp)⟩
/-- The same texts, in whichever order: one set. -/
theorem setS_of_mem {a b : List (List UInt8)} (h : ∀ x, x ∈ a ↔ x ∈ b) : setS a = setS b := rising_ext (rising_setS _) (rising_setS _) fun z => by rw [mem_setS, mem_setS, h]
theorem dset_any (A : Option Addr) (ls : List (List UInt8)) (c : Nat) (w : World) (hs : Strs w w.heap.size A (toBs ls)) (hn : ls.length ≤ 1000000) :
    Calls Tryz.prog 50 #[.slice A ls.length c] w (RowLeft w (setS ls)) := by
  have h := set_any A (toBs ls) c w hs (by rw [toBs_len]; exact hn)
  rw [toBs_len, lists_toBs] at h
  exact h.mono fun e w' h => own_row h
theorem left_out {ls os left : List (List UInt8)} {s : List UInt8} (h : ∀ x, x ∈ ls ↔ x ∈ os ∨ x ∈ left) (hs : s ∈ left) : ∀ x, x ∈ ls ↔ x ∈ os ++ [s] ∨ x ∈ strike left s := fun x => by
  rw [h x]
  simp only [List.mem_append, List.mem_singleton, mem_strike]
  constructor
  · rintro (h1 | h1)
    · exact .inl (.inl h1)
    · by_cases e : x = s
      · exact .inl (.inr e)
      · exact .inr ⟨h1, e⟩
  · rintro ((h1 | rfl) | ⟨h1, _⟩)
    · exact .inl h1
    · exact .inr hs
    · exact .inr h1
set_option maxHeartbeats 4000000 in
set_option maxRecDepth 100000 in
theorem keysp_any (b m : Nat) (ls : List (List UInt8)) (w : World) (h : NameM w b m ls) (hm : m ≤ 100000) :
    Calls Tryz.prog 47 #[.map (some b)] w (RowLeft w (setS ls)) := by
  obtain ⟨f, hs, hf⟩ := h
  have HS := Lib.hid hs
  have HF : Hid (∀ s : ByteArray, s.data.toList ∈ ls ↔ (f s).isSome = true) := fun s => by rw [hf s]; simp
  clear hs hf
  go_enter Tryz.func47, Tryz.ntmps47
  go_upto_region 1 with (fail)
  -- @P1
  go_wp2_with (first | (at_len; refine wpList_len_str _ _ Tryz.underlying67 rfl _ rfl b m f rfl HS.out ?_; intro k hk; obtain ⟨w1, hmk, ho, hg⟩ := mk_strs w k (by omega)) | (at_range; refine wpList_range_str _ _ Tryz.underlying67 rfl _ rfl b m f ls rfl (HS.out.on (below_none hg)) HF.out ?_))
  intro w2 cnt hcnt hl2 hg2 hsz
  have HB2 : Hid (Below w.heap.size w w2) := (below_none hg).trans ((below_none hg2).mono hg.size)
  have HO2 : Hid (OwnS w2 w.heap.size (.slice (some ⟨w.heap.size, 0, none⟩) 0 k) []) := World.ownsRow.kept ho hg2 (Classical.em _)
  have HL2 := Lib.hid hl2
  have HC2 := Lib.hid hcnt
  have HR0 : Hid (w.heap.size ≤ w1.heap.size) := hg.size
  generalize hr : w1.heap.size = r at *
  clear hmk ho hg hl2 hg2 hsz hcnt hk
  go_wp2_with fail
  -- @P2
  go_loopw [3] (fun v wr => ∃ (A3 : Option Addr) (n3 c3 : Nat) (os left : List (List UInt8)) (cnt : Nat), v = .slice A3 n3 c3 ∧ Hid (n3 = os.length) ∧ Hid (OwnS wr w.heap.size (.slice A3 n3 c3) os) ∧ Hid (StrLeft wr b r m f left cnt) ∧ Hid (∀ x, x ∈ ls ↔ x ∈ os ∨ x ∈ left) ∧ Hid (os.length + cnt ≤ m) ∧ Hid (Below w.heap.size w wr)) (fun _ wr => wr.rangeLeft b r)
  case atStart => exact ⟨_, 0, k, [], ls, cnt, rfl, rfl, HO2.out, HL2.out, (fun x => by simp), (by show _ ≤ _; simpa using HC2.out), HB2.out⟩
  case round =>
    clear HB2 HO2 HL2 HC2 HS
    obtain ⟨A3, n3, c3, os, left, cnt, rfl, HN, HO, HL, HM, HC, HB⟩ := hrel
    -- @P3
    go_wp2_with (at_next; refine wpList_next_str rfl _ rfl b r m f left cnt rfl HL.out ?_ ?_)
    · intro h0
      have HE : Hid (∀ x, x ∈ os ↔ x ∈ ls) := fun x => by rw [HM.out x, h0]; simp
      clear h0
      have h3 := HN.out
      subst h3
      obtain ⟨A4, c4, e4, hs4, _, _⟩ := HO.out.strs
      simp only [Value.slice.injEq] at e4
      obtain ⟨rfl, -, rfl⟩ := e4
      have hlo : os.length ≤ 1000000 := by have := HC.out; omega
      have CS := Lib.hid (dset_any A3 os c3 wr hs4 hlo)
      rw [setS_of_mem HE.out] at CS
      clear HE HM HO hs4 HL HC HN
      go_wp2_with fail
      refine CS.out.mono ?_
      rintro e w5 ⟨A5, c5, rfl, hA5, hs5, hb5⟩
      have HF5 : Hid (RowLeft w (setS ls) (.returned (.slice A5 (setS ls).length c5)) w5) := ⟨A5, c5, rfl, hA5, hs5, HB.out.trans (hb5.mono HB.out.size)⟩
      clear hs5 hb5 hA5 CS HB
      go_wp2
      go_ret
      exact HF5.out
    · intro s v w4 cnt4 hlt hin hfs hz hl4 hg4 hsz4 hen
      have HO4 : Hid (OwnS w4 w.heap.size (.slice A3 n3 c3) os) := World.ownsRow.kept HO.out hg4 (by
        cases e : (Value.slice A3 n3 c3).ownBlock with
        | none => simp
        | some g =>
          obtain ⟨cs, t, fr, hc⟩ := own_cells HO.out e
          have h1 := HL.out.ne_cells hc
          exact .inr (fun h2 => h1 (by simpa using h2.symm)))
      have HB4 : Hid (Below w.heap.size w w4) := HB.out.grown hg4 HB.out.size (fun q hq => by simp only [Option.some.injEq] at hq; have := HR0.out; omega)
      have hal : Below w4.heap.size w4 (w4.alloc (.cells #[.string s] 9)) := (Below.refl _ _).alloc (Nat.le_refl _) _
      have HO1 := Lib.hid (show OwnS (w4.alloc (.cells #[.string s] 9)) w.heap.size _ os from World.ownsRow.alloc HO4.out _)
      have HL1 := Lib.hid (hl4.on hal)
      have HB1 := Lib.hid (HB4.out.trans (hal.mono HB4.out.size))
      have HM1 := Lib.hid (left_out HM.out hin)
      have HC1 : Hid ((os ++ [s.data.toList]).length + cnt4 ≤ m) := by have := HC.out; show _ ≤ _; rw [List.length_append]; simp only [List.length_cons, List.length_nil]; omega
      have hle : os.length + [s.data.toList].length ≤ 1000000 := by have := HC.out; simp; omega
      have HLT : Hid (cnt4 < wr.rangeLeft b r) := by show _ < _; rw [HL.out.eq]; exact hlt
      clear hl4 hg4 hsz4 hin hfs hal HO HL HM HC HB HO4 HB4 hlt
      -- @P4
      go_wp2_with (at_builtin; refine wpList_append_strs rfl _ _ rfl w.heap.size _ os [s.data.toList] rfl HO1.out (some ⟨w4.heap.size, 0, none⟩) 1 1 rfl rfl (fun e => by cases e) (strs_one w4 s) HB1.out.size hle ?_)
      intro v2 w6 ho2 hg2
      have HL2 := Lib.hid (HL1.out.beside HO1.out hg2)
      have HB2 : Hid (Below w.heap.size w w6) := below_append HB1.out HO1.out hg2 (Nat.le_refl _)
      obtain ⟨A7, c7, rfl, _, _, _⟩ := ho2.strs
      have HO2 := Lib.hid ho2
      clear ho2 hg2 HO1 HL1 HB1 hen
      go_wp2
      go_roundw
      case rel => exact ⟨A7, _, c7, os ++ [s.data.toList], strike left s.data.toList, cnt4, rfl, rfl, HO2.out, HL2.out, HM1.out, HC1.out, HB2.out⟩
      case measure => rw [HL2.out.eq]; exact HLT.out
set_option maxHeartbeats 4000000 in
set_option maxRecDepth 100000 in
theorem keyss_any (b m : Nat) (ls : List (List UInt8)) (w : World) (h : NameM w b m ls) (hm : m ≤ 100000) :
    Calls Tryz.prog 27 #[.map (some b)] w (RowLeft w (setS ls)) := by
  obtain ⟨f, hs, hf⟩ := h
  have HS := Lib.hid hs
  have HF : Hid (∀ s : ByteArray, s.data.toList ∈ ls ↔ (f s).isSome = true) := fun s => by rw [hf s]; simp
  clear hs hf
  go_enter Tryz.func27, Tryz.ntmps27
  go_upto_region 1 with (fail)
  -- @P1
  go_wp2_with (first | (at_len; refine wpList_len_str _ _ Tryz.underlying46 rfl _ rfl b m f rfl HS.out ?_; intro k hk; obtain ⟨w1, hmk, ho, hg⟩ := mk_strs w k (by omega)) | (at_range; refine wpList_range_str _ _ Tryz.underlying46 rfl _ rfl b m f ls rfl (HS.out.on (below_none hg)) HF.out ?_))
  intro w2 cnt hcnt hl2 hg2 hsz
  have HB2 : Hid (Below w.heap.size w w2) := (below_none hg).trans ((below_none hg2).mono hg.size)
  have HO2 : Hid (OwnS w2 w.heap.size (.slice (some ⟨w.heap.size, 0, none⟩) 0 k) []) := World.ownsRow.kept ho hg2 (Classical.em _)
  have HL2 := Lib.hid hl2
  have HC2 := Lib.hid hcnt
  have HR0 : Hid (w.heap.size ≤ w1.heap.size) := hg.size
  generalize hr : w1.heap.size = r at *
  clear hmk ho hg hl2 hg2 hsz hcnt hk
  go_wp2_with fail
  -- @P2
  go_loopw [3] (fun v wr => ∃ (A3 : Option Addr) (n3 c3 : Nat) (os left : List (List UInt8)) (cnt : Nat), v = .slice A3 n3 c3 ∧ Hid (n3 = os.length) ∧ Hid (OwnS wr w.heap.size (.slice A3 n3 c3) os) ∧ Hid (StrLeft wr b r m f left cnt) ∧ Hid (∀ x, x ∈ ls ↔ x ∈ os ∨ x ∈ left) ∧ Hid (os.length + cnt ≤ m) ∧ Hid (Below w.heap.size w wr)) (fun _ wr => wr.rangeLeft b r)
  case atStart => exact ⟨_, 0, k, [], ls, cnt, rfl, rfl, HO2.out, HL2.out, (fun x => by simp), (by show _ ≤ _; simpa using HC2.out), HB2.out⟩
  case round =>
    clear HB2 HO2 HL2 HC2 HS
    obtain ⟨A3, n3, c3, os, left, cnt, rfl, HN, HO, HL, HM, HC, HB⟩ := hrel
    -- @P3
    go_wp2_with (at_next; refine wpList_next_str rfl _ rfl b r m f left cnt rfl HL.out ?_ ?_)
    · intro h0
      have HE : Hid (∀ x, x ∈ os ↔ x ∈ ls) := fun x => by rw [HM.out x, h0]; simp
      clear h0
      have h3 := HN.out
      subst h3
      obtain ⟨A4, c4, e4, hs4, _, _⟩ := HO.out.strs
      simp only [Value.slice.injEq] at e4
      obtain ⟨rfl, -, rfl⟩ := e4
      have hlo : os.length ≤ 1000000 := by have := HC.out; omega
      have CS := Lib.hid (dset_any A3 os c3 wr hs4 hlo)
      rw [setS_of_mem HE.out] at CS
      clear HE HM HO hs4 HL HC HN
      go_wp2_with fail
      refine CS.out.mono ?_
      rintro e w5 ⟨A5, c5, rfl, hA5, hs5, hb5⟩
      have HF5 : Hid (RowLeft w (setS ls) (.returned (.slice A5 (setS ls).length c5)) w5) := ⟨A5, c5, rfl, hA5, hs5, HB.out.trans (hb5.mono HB.out.size)⟩
      clear hs5 hb5 hA5 CS HB
      go_wp2
      go_ret
      exact HF5.out
    · intro s v w4 cnt4 hlt hin hfs hz hl4 hg4 hsz4 hen
      have HO4 : Hid (OwnS w4 w.heap.size (.slice A3 n3 c3) os) := World.ownsRow.kept HO.out hg4 (by
        cases e : (Value.slice A3 n3 c3).ownBlock with
        | none => simp
        | some g =>
          obtain ⟨cs, t, fr, hc⟩ := own_cells HO.out e
          have h1 := HL.out.ne_cells hc
          exact .inr (fun h2 => h1 (by simpa using h2.symm)))
      have HB4 : Hid (Below w.heap.size w w4) := HB.out.grown hg4 HB.out.size (fun q hq => by simp only [Option.some.injEq] at hq; have := HR0.out; omega)
      have hal : Below w4.heap.size w4 (w4.alloc (.cells #[.string s] 9)) := (Below.refl _ _).alloc (Nat.le_refl _) _
      have HO1 := Lib.hid (show OwnS (w4.alloc (.cells #[.string s] 9)) w.heap.size _ os from World.ownsRow.alloc HO4.out _)
      have HL1 := Lib.hid (hl4.on hal)
      have HB1 := Lib.hid (HB4.out.trans (hal.mono HB4.out.size))
      have HM1 := Lib.hid (left_out HM.out hin)
      have HC1 : Hid ((os ++ [s.data.toList]).length + cnt4 ≤ m) := by have := HC.out; show _ ≤ _; rw [List.length_append]; simp only [List.length_cons, List.length_nil]; omega
      have hle : os.length + [s.data.toList].length ≤ 1000000 := by have := HC.out; simp; omega
      have HLT : Hid (cnt4 < wr.rangeLeft b r) := by show _ < _; rw [HL.out.eq]; exact hlt
      clear hl4 hg4 hsz4 hin hfs hal HO HL HM HC HB HO4 HB4 hlt
      -- @P4
      go_wp2_with (at_builtin; refine wpList_append_strs rfl _ _ rfl w.heap.size _ os [s.data.toList] rfl HO1.out (some ⟨w4.heap.size, 0, none⟩) 1 1 rfl rfl (fun e => by cases e) (strs_one w4 s) HB1.out.size hle ?_)
      intro v2 w6 ho2 hg2
      have HL2 := Lib.hid (HL1.out.beside HO1.out hg2)
      have HB2 : Hid (Below w.heap.size w w6) := below_append HB1.out HO1.out hg2 (Nat.le_refl _)
      obtain ⟨A7, c7, rfl, _, _, _⟩ := ho2.strs
      have HO2 := Lib.hid ho2
      clear ho2 hg2 HO1 HL1 HB1 hen
      go_wp2
      go_roundw
      case rel => exact ⟨A7, _, c7, os ++ [s.data.toList], strike left s.data.toList, cnt4, rfl, rfl, HO2.out, HL2.out, HM1.out, HC1.out, HB2.out⟩
      case measure => rw [HL2.out.eq]; exact HLT.out
end Go.Proofs.YtifkpelcdihdoaaGreatDoor
