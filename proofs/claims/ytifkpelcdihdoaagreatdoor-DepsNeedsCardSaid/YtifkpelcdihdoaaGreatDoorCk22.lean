/- Words for memory: a map whose keys are ids, told as a set of ids. Which operations a patch may have, told one by one, as they are looked at from the first one on. Package patch: the functions that are made for a patch: what it may make, what it may name. -/
import Derived.Maps.OwnSet
import Derived.DeepKeys4
import Derived.Test.YtifkpelcdihdoaaGreatDoorProg
import Derived.WalkKit
import Derived.WalkSpells
import Derived.Handy
import Derived.Lib.Hide
import Derived.Shelf.Strings.BuilderK
import Derived.BigQuiet
import Derived.Deep.QuietTactic
import Derived.Lib.AtoiAllCases
import Derived.Lib.ItoaMem
import Derived.Test.YtifkpelcdihdoaaGreatDoorShelf
import Derived.Deep.RegionHeld3
import Derived.Deep.CutRange
import Derived.Lib.AppendIntMem
import Derived.Test.YtifkpelcdihdoaaGreatDoorCk13
namespace Go.Proofs.YtifkpelcdihdoaaGreatDoor
open Go.RowKit
open Go.Maps (Keyed IsMap)
set_option linter.unusedVariables false

theorem idkey_laid : laidOutB Tryz.prog = true := by kernel_rfl
theorem idkey_lt : decide (81 < Tryz.prog.types.size) = true := by kernel_rfl
theorem idkey_row : (81 : TypeId) < Tryz.prog.types.size := of_decide_eq_true idkey_lt
theorem idkey_wide : (match Tryz.prog.underlying 81 with | some (.array _ _) | some (.struct _) => true | _ => false) = true := by rw [Tryz.underlying81]
theorem idkey_at : Tryz.prog.keyTypeAt 3 81 = true := by kernel_rfl
theorem idkey_law {P : Program} {k : TypeId} (h1 : laidOutB P = true) (h2 : k < P.types.size) (h3 : P.keyTypeAt 3 k = true) (h4 : (match P.underlying k with | some (.array _ _) | some (.struct _) => true | _ => false) = true) : Keyed P k := Keyed.of_law (deep_law_laid h1 (m := 3) (by decide) h2 h3 h4)
theorem idK : Keyed Tryz.prog 81 := idkey_law idkey_laid idkey_row idkey_at idkey_wide
theorem idkey_type : Tryz.prog.keyType 81 = true := by kernel_rfl
theorem idkey_cells : Tryz.prog.cellsOf 81 = 2 := by kernel_rfl
theorem idkey_c1 : Tryz.prog.cellsOf 9 = 1 := by kernel_rfl
theorem idkey_c2 : Tryz.prog.cellsOf 3 = 1 := by kernel_rfl
theorem idkey_formed (x : Im) : (Value.agg #[.string x.p, .int .i64 x.n]).formed Tryz.prog 81 = true := by simp [Value.formed, Tryz.underlying81, idkey_cells]
theorem size_succ {n k : Nat} (h : k < n) : ∃ m, n = m + 1 := ⟨n - 1, by omega⟩
theorem idkey_size : ∃ m, Tryz.prog.types.size = m + 1 := size_succ idkey_row
theorem idkey_und : Tryz.prog.underlying 114 = some (.map 81 47) := Tryz.underlying114
theorem idkey_zero (w : World) : (zeroValue 47).run Tryz.prog w = .ok (.agg #[]) w := by kernel_rfl
/-- An id is a key. -/
theorem id_keyOf (x : Im) (hx : x.Ok) : ∃ kl, keyOf Tryz.prog 81 (.agg #[.string x.p, .int .i64 x.n]) = some kl := by
  obtain ⟨m, hm⟩ := idkey_size
  have h1 : x.p.size ≤ maxLen := by have := hx.1; unfold maxLen; omega
  have h2 : (Lit.int .i64 x.n).wf = true := WalkArith.wf_i64 hx.2
  unfold keyOf
  rw [Tryz.underlying81]
  simp only [idkey_type, idkey_formed, Bool.and_self, if_true, hm]
  simp [Program.keyLits, Tryz.underlying81, Tryz.underlying9, Tryz.underlying3, idkey_cells, idkey_c1, idkey_c2, Value.cells, h1, h2]
theorem id_keyLit (x : Im) : ∃ kl, x.Ok → keyOf Tryz.prog 81 (.agg #[.string x.p, .int .i64 x.n]) = some kl := by
  by_cases hx : x.Ok
  · obtain ⟨kl, h⟩ := id_keyOf x hx
    exact ⟨kl, fun _ => h⟩
  · exact ⟨.bool true, fun h => absurd h hx⟩
noncomputable def idLit (x : Im) : Lit := Classical.choose (id_keyLit x)
theorem idLit_is (x : Im) (hx : x.Ok) : keyOf Tryz.prog 81 (.agg #[.string x.p, .int .i64 x.n]) = some (idLit x) := Classical.choose_spec (id_keyLit x) hx
theorem key_lit {P : Program} {k : TypeId} (K : Keyed P k) {v : Value} {l : Lit} (h : keyOf P k v = some l) : WideAt.IsKeyLit l := K.key h
theorem idLit_key (x : Im) (hx : x.Ok) : WideAt.IsKeyLit (idLit x) := by
  have h := idLit_is x hx
  generalize idLit x = l at *
  exact key_lit idK h
theorem idLit_inj {x y : Im} (hx : x.Ok) (hy : y.Ok) (h : idLit x = idLit y) : x = y := by
  have h1 := idLit_is x hx
  rw [h] at h1
  have h2 := idK.inj h1 (idLit_is y hy)
  obtain ⟨p, n⟩ := x
  obtain ⟨q, m⟩ := y
  simp only [Value.agg.injEq, Array.mk.injEq, List.cons.injEq, Value.string.injEq, Value.int.injEq, true_and, and_true] at h2
  rw [h2.1, h2.2]
theorem has_self {D : DataW Unit} (hD : IsMap D) (y : Im) (hy : y.Ok) : Maps.has (D.put (idLit y) (.agg [])) (idLit y) = true := by
  have hk := idLit_key y hy
  generalize idLit y = ky at *
  exact Maps.has_put_same hD hk _
/-- Block b is a map whose keys are these ids. -/
def IdSet (w : World) (b : Nat) (l : List Ik) : Prop := ∃ (n : Nat) (D : DataW Unit), n ≤ l.length ∧ w.ownsMap Tryz.prog 81 unitElem b n D ∧ ∀ x : Im, x.Ok → Maps.has D (idLit x) = decide (x.key ∈ l)
theorem IdSet.made (w : World) : IdSet (w.alloc (.map #[] 0)) w.heap.size [] :=
  ⟨0, .map [], Nat.le_refl _, World.ownsMap_made _ _ _ _, fun x _ => by simp [Maps.has_eq]⟩
theorem IdSet.lt {w : World} {b : Nat} {l : List Ik} (h : IdSet w b l) : b < w.heap.size := by
  obtain ⟨n, D, _, ho, _⟩ := h
  exact ho.lt
theorem IdSet.grown {w w' : World} {b : Nat} {l : List Ik} {row : Option Nat} (h : IdSet w b l) (hg : w.grownBy w' row) (hr : row ≠ some b) : IdSet w' b l := by
  obtain ⟨n, D, hn, ho, hh⟩ := h
  exact ⟨n, D, hn, ho.kept hg (fun e => hr e.symm), hh⟩
theorem IdSet.on {w w' : World} {b : Nat} {l : List Ik} (h : IdSet w b l) (hb : Below w.heap.size w w') : IdSet w' b l :=
  h.grown (row := none) ⟨hb.os, hb.tape, hb.output, hb.size, fun i hi _ => hb.block i hi⟩ (by simp)
/-- A map is no row. -/
theorem IdSet.ne_cells {w : World} {b g : Nat} {l : List Ik} {cs : Array Value} {t : TypeId} {f : Nat × Nat} (h : IdSet w b l) (hg : w.heap[g]? = some (.cells cs t f)) : b ≠ g := by
  obtain ⟨n, D, _, ⟨es, clock, hb, _⟩, _⟩ := h
  rintro rfl
  rw [hg] at hb
  cases hb
theorem IdSet.ne_cell {w : World} {b g o : Nat} {l : List Ik} {u : Value} (h : IdSet w b l) (hc : w.cell? ⟨g, o, none⟩ = some u) : b ≠ g := by
  obtain ⟨n, D, _, ⟨es, clock, hb, _⟩, _⟩ := h
  rintro rfl
  unfold World.cell? at hc
  simp [hb] at hc
theorem wpList_look_id {w : World} {ops : Array Oper} {rest : List Oper} {o : Oper} {a : Act} {Q : Exit → Act → World → Prop} (hg : o.guard = none) (m x : Operand) (hop : o.op = Op.lookup 114 m x true)
    (b : Nat) (l : List Ik) (y : Im) (hm : a.eval m = .map (some b)) (hx : a.eval x = .agg #[.string y.p, .int .i64 y.n]) (hs : IdSet w b l) (hy : y.Ok) (r : Bool) (hr : decide (y.key ∈ l) = r)
    (hK : wpList Tryz.prog ops Q rest (a.put o.dst (.tuple #[.agg #[], .bool r])) w) : wpList Tryz.prog ops Q (o :: rest) a w := by
  obtain ⟨n, D, hn, ho, hh⟩ := hs
  refine wpList_lookup_own_unit w hg m x _ hop _ _ idK idkey_und (idkey_zero w) b n D hm ho _ (idLit y) hx (idLit_is y hy) ?_
  rw [hh y hy, hr]
  exact hK
theorem wpList_put_id {w : World} {ops : Array Oper} {rest : List Oper} {o : Oper} {a : Act} {Q : Exit → Act → World → Prop} (hg : o.guard = none) (m x v : Operand) (hop : o.op = Op.mapUpdate 114 m x v)
    (b : Nat) (l : List Ik) (y : Im) (hm : a.eval m = .map (some b)) (hx : a.eval x = .agg #[.string y.p, .int .i64 y.n]) (hv : a.eval v = .agg #[]) (hs : IdSet w b l) (hy : y.Ok) (hl : l.length ≤ 1000000000000)
    (hK : ∀ w', IdSet w' b (l ++ [y.key]) → w.grownBy w' (some b) → wpList Tryz.prog ops Q rest (a.put o.dst undef) w') : wpList Tryz.prog ops Q (o :: rest) a w := by
  obtain ⟨n, D, hn, ho, hh⟩ := hs
  refine wpList_mapUpdate_own w hg m x v _ hop _ _ idK idkey_und unitElem b n D hm ho (by unfold maxLen; omega) _ _ (idLit y) hx hv (idLit_is y hy) (.agg []) [] unitElem_mk ?_
  intro w' h1 h2
  refine hK w' ⟨n + 1, _, by rw [List.length_append]; simp; omega, h1, fun z hz => ?_⟩ h2
  by_cases e : z = y
  · subst e
    rw [has_self ho.isMap z hz]
    simp
  · rw [Maps.has_put_other (fun h => e (idLit_inj hz hy h)), hh z hz]
    simp only [List.mem_append, List.mem_singleton]
    exact decide_eq_decide.2 ⟨.inl, fun h => h.elim id (fun h2 => absurd (Im.key_inj h2) e)⟩
end Go.Proofs.YtifkpelcdihdoaaGreatDoor
namespace Go.Proofs.YtifkpelcdihdoaaGreatDoor
open Go.RowKit
set_option linter.unusedVariables false

/-- Are these of the patch, none made before, none twice? -/
def makesL (name : List UInt8) : List Ik → List Ik → Bool
  | _, [] => true
  | m, i :: r => !decide (i ∈ m) && decide (i.1 = name) && okK i && makesL name (m ++ [i]) r
/-- Is each made, or of a patch that is hung on? -/
def knowsL (deps : List (List UInt8)) (m l : List Ik) : Bool := l.all fun i => decide (i ∈ m) || decide (i.1 ∈ deps)
def stepO (name : List UInt8) (deps : List (List UInt8)) (m : List Ik) (o : OpK) : Bool := mayO o && makesL name m (comesO name o) && knowsL deps (m ++ comesO name o) (idsO o)
def stepsO (name : List UInt8) (deps : List (List UInt8)) : List Ik → List OpK → Bool
  | _, [] => true
  | m, o :: r => stepO name deps m o && stepsO name deps (m ++ comesO name o) r

theorem makes_iff (name : List UInt8) : ∀ (l m : List Ik), makesL name m l = true ↔ (∀ i ∈ l, i.1 = name ∧ okK i = true) ∧ l.Nodup ∧ ∀ i ∈ l, i ∉ m
  | [], m => by simp [makesL]
  | i :: r, m => by
    have ih := makes_iff name r (m ++ [i])
    unfold makesL
    rw [Bool.and_eq_true, Bool.and_eq_true, Bool.and_eq_true, ih]
    simp only [Bool.not_eq_true', decide_eq_false_iff_not, decide_eq_true_eq, List.mem_cons, List.nodup_cons, List.mem_append, List.not_mem_nil, or_false]
    constructor
    · rintro ⟨⟨⟨h1, h2⟩, h3⟩, h4, h5, h6⟩
      refine ⟨?_, ⟨fun h => h6 i h (.inr rfl), h5⟩, ?_⟩
      · rintro x (rfl | hx)
        · exact ⟨h2, h3⟩
        · exact h4 x hx
      · rintro x (rfl | hx)
        · exact h1
        · exact fun h => h6 x hx (.inl h)
    · rintro ⟨h1, ⟨h2, h3⟩, h4⟩
      refine ⟨⟨⟨h4 i (.inl rfl), (h1 i (.inl rfl)).1⟩, (h1 i (.inl rfl)).2⟩, fun x hx => h1 x (.inr hx), h3, ?_⟩
      rintro x hx (h | rfl)
      · exact h4 x (.inr hx) h
      · exact h2 hx
theorem comes_low {name : List UInt8} {o : OpK} (h : mayO o = true) : ∀ i ∈ comesO name o, 0 ≤ i.2 := by
  intro i hi
  have ho := op_ok h
  unfold comesO at hi
  split at hi
  · simp only [List.mem_singleton] at hi
    subst hi
    exact (okK_n ho.self).1
  · split at hi
    · unfold rowI at hi
      split at hi
      · obtain ⟨k, _, rfl⟩ := List.mem_map.1 hi
        have := ho.first.1
        show (0 : Int) ≤ o.first + (k : Int)
        omega
      · simp at hi
    · simp at hi
theorem ok_named {name : List UInt8} (hn : nameK name = true) {i : Ik} (hi : i.1 = name) (h0 : 0 ≤ i.2) : okK i = true ↔ i.2 ≤ 1048576 := by
  have hne : i.1 ≠ [] := fun e => by
    rw [hi] at e
    subst e
    revert hn
    decide
  unfold okK okI
  rw [if_neg hne, hi, Bool.and_eq_true, decide_eq_true_eq]
  exact ⟨fun h => h.2.2, fun h => ⟨hn, h0, h⟩⟩
theorem own_iff {name : List UInt8} {l : List Ik} : ownP name l = true ↔ (∀ i ∈ l, i.1 = name ∧ i.2 ≤ 1048576) ∧ l.Nodup := by
  unfold ownP
  rw [Bool.and_eq_true, List.all_eq_true, decide_eq_true_eq]
  simp only [decide_eq_true_eq]
theorem made_app (name : List UInt8) (a b : List OpK) : madeP name (a ++ b) = madeP name a ++ madeP name b := by simp [madeP]
theorem made_one (name : List UInt8) (o : OpK) : madeP name [o] = comesO name o := by simp [madeP]
theorem own_step {name : List UInt8} (hn : nameK name = true) {o : OpK} (hm : mayO o = true) {d : List Ik} (hd : ownP name d = true) : ownP name (d ++ comesO name o) = true ↔ makesL name d (comesO name o) = true := by
  rw [makes_iff, own_iff]
  obtain ⟨h1, h2⟩ := own_iff.1 hd
  constructor
  · rintro ⟨h3, h4⟩
    rw [List.nodup_append] at h4
    refine ⟨fun i hi => ?_, h4.2.1, fun i hi h => h4.2.2 i h i hi rfl⟩
    obtain ⟨e1, e2⟩ := h3 i (List.mem_append.2 (.inr hi))
    exact ⟨e1, (ok_named hn e1 (comes_low hm i hi)).2 e2⟩
  · rintro ⟨h3, h4, h5⟩
    refine ⟨fun i hi => ?_, ?_⟩
    · rcases List.mem_append.1 hi with hi | hi
      · exact h1 i hi
      · exact ⟨(h3 i hi).1, (ok_named hn (h3 i hi).1 (comes_low hm i hi)).1 (h3 i hi).2⟩
    · rw [List.nodup_append]
      exact ⟨h2, h4, fun a ha b hb e => h5 b hb (e ▸ ha)⟩
theorem own_left {name : List UInt8} {a b : List Ik} (h : ownP name (a ++ b) = true) : ownP name a = true := by
  obtain ⟨h1, h2⟩ := own_iff.1 h
  rw [List.nodup_append] at h2
  exact own_iff.2 ⟨fun i hi => h1 i (List.mem_append.2 (.inl hi)), h2.1⟩
theorem knows_eq {name : List UInt8} {deps : List (List UInt8)} (hd : name ∉ deps) {m : List Ik} (hm : ownP name m = true) (l : List Ik) : knowsL deps m l = l.all (knownI name deps m) := by
  unfold knowsL
  congr 1
  funext i
  unfold knownI
  by_cases h : i.1 = name
  · rw [if_pos h, h, decide_eq_false hd, Bool.or_false]
  · rw [if_neg h, decide_eq_false (fun hi => h ((own_iff.1 hm).1 i hi).1), Bool.false_or]
theorem steps_iff {name : List UInt8} {deps : List (List UInt8)} (hn : nameK name = true) (hd : name ∉ deps) : ∀ (l d : List OpK), ownP name (madeP name d) = true →
    (stepsO name deps (madeP name d) l = true ↔ asksP name deps d l = true ∧ ownP name (madeP name (d ++ l)) = true)
  | [], d, hm => by simp [stepsO, asksP, hm]
  | o :: r, d, hm => by
    have e1 : madeP name (d ++ [o]) = madeP name d ++ comesO name o := by rw [made_app, made_one]
    have e2 : d ++ o :: r = (d ++ [o]) ++ r := by simp
    unfold stepsO asksP stepO
    rw [Bool.and_eq_true, Bool.and_eq_true, Bool.and_eq_true, Bool.and_eq_true, Bool.and_eq_true]
    constructor
    · rintro ⟨⟨⟨h1, h2⟩, h3⟩, h4⟩
      have h5 := (own_step hn h1 hm).2 h2
      rw [knows_eq hd h5] at h3
      rw [← e1] at h3 h4 h5
      obtain ⟨h6, h7⟩ := (steps_iff hn hd r (d ++ [o]) h5).1 h4
      exact ⟨⟨⟨h1, h3⟩, h6⟩, by rw [e2]; exact h7⟩
    · rintro ⟨⟨⟨h1, h3⟩, h6⟩, h7⟩
      rw [e2] at h7
      have h5 : ownP name (madeP name (d ++ [o])) = true := by
        rw [made_app] at h7
        exact own_left h7
      have h4 := (steps_iff hn hd r (d ++ [o]) h5).2 ⟨h6, h7⟩
      rw [e1] at h3 h4 h5
      rw [← knows_eq hd h5] at h3
      exact ⟨⟨⟨h1, (own_step hn h1 hm).1 h5⟩, h3⟩, h4⟩
/-- Is what it hangs on as a set has it, and others alone? -/
def hungP (p : PatK) : Bool := decide (p.deps = setS p.deps) && !decide (p.name ∈ p.deps)
/-- May what it does be? -/
def doneP (p : PatK) : Bool := decide (p.ops.length ≤ 2000) && stepsO p.name p.deps [] p.ops
theorem may_is {p : PatK} (hn : nameK p.name = true) : mayP p = (hungP p && doneP p) := by
  unfold mayP hungP doneP
  by_cases hd : p.name ∈ p.deps
  · simp [hd]
  · have h := steps_iff hn hd p.ops [] (by simp [madeP, ownP])
    rw [show madeP p.name [] = [] from rfl, List.nil_append] at h
    have h2 : stepsO p.name p.deps [] p.ops = (asksP p.name p.deps [] p.ops && ownP p.name (madeP p.name p.ops)) := by
      rw [Bool.eq_iff_iff, Bool.and_eq_true]
      exact h
    rw [h2, show decide (setS p.deps = p.deps) = decide (p.deps = setS p.deps) from decide_eq_decide.2 ⟨Eq.symm, Eq.symm⟩]
    cases decide (p.deps = setS p.deps) <;> cases decide (p.ops.length ≤ 2000) <;> simp [hd]
theorem check_is (p : PatK) : checkP p = if nameK p.name && p.deps.all nameK then (if hungP p && doneP p then 0 else 2) else 7 := by
  unfold checkP namesP13
  by_cases h : (nameK p.name && p.deps.all nameK) = true
  · rw [if_pos h, if_pos h, may_is (Bool.and_eq_true_iff.1 h).1]
  · rw [if_neg h, if_neg h]
end Go.Proofs.YtifkpelcdihdoaaGreatDoor
namespace Go.Proofs.YtifkpelcdihdoaaGreatDoor
open Go.RowKit
set_option linter.unusedVariables false

theorem makes_cons (name : List UInt8) (m : List Ik) (i : Ik) (r : List Ik) : makesL name m (i :: r) = (!decide (i ∈ m) && decide (i.1 = name) && okK i && makesL name (m ++ [i]) r) := rfl
theorem makes_app (name : List UInt8) : ∀ (a m b : List Ik), makesL name m (a ++ b) = (makesL name m a && makesL name (m ++ a) b)
  | [], m, b => by simp [makesL]
  | i :: a, m, b => by
    have ih := makes_app name a (m ++ [i]) b
    rw [List.cons_append, makes_cons, makes_cons, ih, show m ++ [i] ++ a = m ++ i :: a by simp]
    simp only [Bool.and_assoc]
theorem makes_one (name : List UInt8) (m : List Ik) (i : Ik) : makesL name m [i] = (!decide (i ∈ m) && decide (i.1 = name) && okK i) := by
  rw [makes_cons]
  exact Bool.and_true _
theorem makes_take (name : List UInt8) (m : List Ik) (l : List Im) (k : Nat) (hk : k < l.length) : makesL name m (ikeys (l.take (k + 1))) = (makesL name m (ikeys (l.take k)) && (!decide (l[k].key ∈ m ++ ikeys (l.take k)) && decide (l[k].key.1 = name) && okK l[k].key)) := by
  rw [List.take_succ_eq_append_getElem hk, show ikeys (l.take k ++ [l[k]]) = ikeys (l.take k) ++ [l[k].key] by unfold ikeys; rw [List.map_append]; rfl, makes_app, makes_one]
theorem makes_part {name : List UInt8} {m : List Ik} {l : List Im} (k : Nat) (h : makesL name m (ikeys (l.take k)) = false) : makesL name m (ikeys l) = false := by
  have e : ikeys l = ikeys (l.take k) ++ ikeys (l.drop k) := by unfold ikeys; rw [← List.map_append, List.take_append_drop]
  rw [e, makes_app, h]
  rfl
theorem ikeys_snoc (m : List Ik) (l : List Im) (k : Nat) (hk : k < l.length) : m ++ ikeys (l.take (k + 1)) = m ++ ikeys (l.take k) ++ [l[k].key] := by
  rw [List.take_succ_eq_append_getElem hk, show ikeys (l.take k ++ [l[k]]) = ikeys (l.take k) ++ [l[k].key] by unfold ikeys; rw [List.map_append]; rfl, List.append_assoc]
/-- What a function that was made for a patch has: the map's variable, the patch's. -/
structure Caught (w : World) (g3 g2 bm : Nat) (x : Ptm) : Prop where
  c : w.cell? ⟨g3, 0, none⟩ = some (.map (some bm))
  p : PatAt w g2 x
theorem Caught.grown {w w' : World} {g3 g2 bm : Nat} {x : Ptm} {m : List Ik} (h : Caught w g3 g2 bm x) (hs : IdSet w bm m) (hg : w.grownBy w' (some bm)) : Caught w' g3 g2 bm x := by
  have h3 := hs.ne_cell h.c
  have h2 := hs.ne_cells h.p.blk
  refine ⟨(cell_same (hg.block g3 (rec_cell_lt h.c) (fun e => h3 (by injection e with e; exact e.symm)))).trans h.c, ⟨(hg.block g2 h.p.lt (fun e => h2 (by injection e with e; exact e.symm))).trans h.p.blk⟩⟩
theorem Caught.on {w w' : World} {g3 g2 bm : Nat} {x : Ptm} (h : Caught w g3 g2 bm x) (hb : Below w.heap.size w w') : Caught w' g3 g2 bm x :=
  ⟨(hb.cell (rec_cell_lt h.c)).trans h.c, h.p.on hb⟩
theorem ids_keep {w w' : World} {B bm : Nat} {A : Option Addr} {l : List Im} {m : List Ik} (h : Ids w B A l) (hs : IdSet w bm m) (hg : w.grownBy w' (some bm)) : Ids w' B A l := fun hp => by
  obtain ⟨b, off, e, hlt, hc⟩ := h hp
  refine ⟨b, off, e, hlt, fun i u hu => ?_⟩
  have h1 := hc i u hu
  have h2 := hs.ne_cell h1
  exact (cell_same (hg.block b (rec_cell_lt h1) (fun e => h2 (by injection e with e; exact e.symm)))).trans h1
/-- What maker's function leaves. -/
def MakeLeft (w : World) (bm : Nat) (r : Bool) (m : List Ik) (e : Ending) (w' : World) : Prop := e = .returned (.bool r) ∧ (r = true → IdSet w' bm m) ∧ w.grownBy w' (some bm)
set_option maxHeartbeats 4000000 in
set_option maxRecDepth 100000 in
theorem maker1_any (g3 g2 bm : Nat) (x : Ptm) (m : List Ik) (A : Option Addr) (l : List Im) (c : Nat) (w : World) (hC : Caught w g3 g2 bm x) (hS : IdSet w bm m) (hl : Ids w w.heap.size A l) (hn : l.length ≤ 100000) (hm : m.length ≤ 100000000000) (hok : ∀ i ∈ l, i.Ok) (r : Bool) (hr : makesL x.name.data.toList m (ikeys l) = r) :
    Calls Tryz.prog 119 #[.slice A l.length c, .pointer (some ⟨g3, 0, none⟩), .pointer (some ⟨g2, 0, none⟩)] w (MakeLeft w bm r (m ++ ikeys l)) := by
  have HC0 := Lib.hid hC
  have HS0 : Hid (IdSet w bm (m ++ ikeys (l.take 0))) := by
    show IdSet _ _ _
    rw [List.take_zero, show ikeys [] = [] from rfl, List.append_nil]
    exact hS
  have HS00 := Lib.hid hS
  have HL0 := Lib.hid hl
  have HG0 : Hid (w.grownBy w (some bm)) := grownBy_refl _ _
  have HOK := Lib.hid hok
  have HR := Lib.hid hr
  have HM0 : Hid (makesL x.name.data.toList m (ikeys (l.take 0)) = true) := rfl
  clear hC hS hl hok hr
  go_enter Tryz.func119, Tryz.ntmps119
  go_wp2_with fail
  go_loopw [11] (fun iv wr => ∃ k : Nat, iv = .int .i64 (k : Int) ∧ k ≤ l.length ∧ Hid (makesL x.name.data.toList m (ikeys (l.take k)) = true) ∧ Hid (IdSet wr bm (m ++ ikeys (l.take k))) ∧ Hid (w.grownBy wr (some bm))) (fun iv _ => l.length - (intOf iv).toNat)
  case atStart => exact ⟨0, rfl, Nat.zero_le _, HM0.out, HS0.out, HG0.out⟩
  case round =>
    clear HS0 HM0 HG0
    obtain ⟨k, rfl, hk, HM, HS, HG⟩ := hrel
    by_cases hlt : k < l.length
    · have hC := HC0.out.grown HS00.out HG.out
      obtain ⟨b, off, rfl, hbB, d0, d1⟩ := ids_get (ids_keep HL0.out HS00.out HG.out) hlt
      have hyo : l[k].Ok := HOK.out l[k] (List.getElem_mem _)
      have hst := makes_take x.name.data.toList m l k hlt
      have hsn := ikeys_snoc m l k hlt
      rw [HM.out, Bool.true_and] at hst
      have hpart : makesL x.name.data.toList m (ikeys (l.take (k + 1))) = false → makesL x.name.data.toList m (ikeys l) = false := makes_part (k + 1)
      obtain ⟨y, hy⟩ : ∃ y, l[k] = y := ⟨_, rfl⟩
      rw [hy] at d0 d1 hyo hst hsn
      have hal : Below wr.heap.size wr (wr.alloc (.cells #[.string y.p, .int .i64 y.n] 81)) := (Below.refl _ _).alloc (Nat.le_refl _) _
      have HY := Lib.hid (id_new wr y.p y.n)
      have HC := Lib.hid (hC.on hal)
      have HS1 := Lib.hid (HS.out.on hal)
      have HG1 := Lib.hid (Rk.grown_below HG.out hal)
      have HYO := Lib.hid hyo
      have HST := Lib.hid hst
      have HSN := Lib.hid hsn
      have HPT := Lib.hid hpart
      have u0 : (0 : Int) ≤ (k : Int) := by omega
      have u1 : (k : Int) < (l.length : Int) := by omega
      clear hC hyo hst hsn hpart hy hal HS HG HM
      go_upto_region 4 with (fail)
      generalize (wr.alloc (.cells #[.string y.p, .int .i64 y.n] 81)) = wa at *
      generalize wr.heap.size = gy at *
      clear d0 d1 hbB
      have y0 := id_c0 HY.out
      have y1 := id_c1 HY.out
      have c0 := HC.out.c
      obtain ⟨q, hq⟩ : ∃ q, decide (y.key ∈ m ++ ikeys (l.take k)) = q := ⟨_, rfl⟩
      have HQ := Lib.hid hq
      rw [hq] at HST
      clear hq
      go_upto_region 5 with (at_lookup; refine wpList_look_id rfl _ _ rfl bm (m ++ ikeys (l.take k)) y rfl rfl HS1.out HYO.out q HQ.out ?_)
      have hal : Below wa.heap.size wa (wa.alloc (.cells #[] 47)) := (Below.refl _ _).alloc (Nat.le_refl _) _
      replace HY := Lib.hid (HY.out.on hal)
      replace HC := Lib.hid (HC.out.on hal)
      replace HS1 := Lib.hid (HS1.out.on hal)
      replace HG1 := Lib.hid (Rk.grown_below HG1.out hal)
      clear hal y0 y1 c0
      generalize (wa.alloc (.cells #[] 47)) = wb at *
      have y0 := id_c0 HY.out
      have y1 := id_c1 HY.out
      have c0 := HC.out.c
      have p0 := HC.out.p.c0
      cases hq : q
      · rw [hq] at HST
        by_cases hp : y.p = x.name
        · have q1 : (y.p.toList == x.name.toList) = true := by rw [hp]; exact str_eqb _
          have hp2 : decide (y.key.1 = x.name.data.toList) = true := by rw [← hp]; exact decide_eq_true rfl
          rw [hp2] at HST
          obtain ⟨o, ho⟩ : ∃ o, okK y.key = o := ⟨_, rfl⟩
          rw [ho] at HST
          have CR := Lib.hid (idright_any y wb HYO.out.1)
          rw [ho] at CR
          unfold Im.val at CR
          clear hp hp2 ho hq
          cases o
          · have HF : Hid (r = false) := by
              show _ = _
              rw [← HR.out]
              exact HPT.out HST.out
            clear HST HPT HQ
            go_wp2_with fail
            refine CR.out.mono ?_
            rintro e w2 ⟨rfl, hb2⟩
            have HG2 := Lib.hid (Rk.grown_below HG1.out hb2)
            clear hb2 CR
            go_wp2
            go_ret
            exact ⟨by rw [HF.out]; rfl, (fun h => by rw [HF.out] at h; cases h), HG2.out⟩
          · have HM2 : Hid (makesL x.name.data.toList m (ikeys (l.take (k + 1))) = true) := HST.out
            clear HST HPT
            have hlen : (m ++ ikeys (l.take k)).length ≤ 1000000000000 := by rw [List.length_append, ikeys_len, List.length_take]; omega
            have HLE := Lib.hid hlen
            clear hlen
            go_upto_region 7 with (go_at_call 120; refine CR.out.mono ?_; rintro e w2 ⟨rfl, hb2⟩)
            have hY2 := HY.out.on hb2
            have hC2 := HC.out.on hb2
            have HS2 := Lib.hid (HS1.out.on hb2)
            have HG2 := Lib.hid (Rk.grown_below HG1.out hb2)
            clear hb2 CR y0 y1 c0 p0
            have y0 := id_c0 hY2
            have y1 := id_c1 hY2
            have c0 := hC2.c
            clear hY2 hC2
            go_wp2_with (at_mapUpdate; refine wpList_put_id rfl _ _ _ rfl bm (m ++ ikeys (l.take k)) y rfl rfl rfl HS2.out HYO.out HLE.out ?_)
            intro w3 hs3 hg3
            have HS3 : Hid (IdSet w3 bm (m ++ ikeys (l.take (k + 1)))) := by
              show IdSet _ _ _
              rw [HSN.out, List.append_assoc]
              exact hs3
            have HG3 := Lib.hid (Rk.grown_both HG2.out hg3)
            clear hs3 hg3 HS2 HG2 y0 y1 c0
            go_wp2
            go_roundw
            case rel => exact ⟨k + 1, by go_num, by omega, HM2.out, HS3.out, HG3.out⟩
            case measure => simp [intOf]; omega
        · have q1 : (y.p.toList == x.name.toList) = false := str_ne hp
          have hp2 : decide (y.key.1 = x.name.data.toList) = false := decide_eq_false (fun e => hp (bytes_inj e))
          rw [hp2, Bool.and_false, Bool.false_and] at HST
          have HF : Hid (r = false) := by
            show _ = _
            rw [← HR.out]
            exact HPT.out HST.out
          clear HST HPT hp hp2 hq
          go_wp2
          go_ret
          exact ⟨by rw [HF.out]; rfl, (fun h => by rw [HF.out] at h; cases h), HG1.out⟩
      · rw [hq, Bool.not_true, Bool.false_and, Bool.false_and] at HST
        have HF : Hid (r = false) := by
          show _ = _
          rw [← HR.out]
          exact HPT.out HST.out
        clear HST HPT hq
        go_wp2
        go_ret
        exact ⟨by rw [HF.out]; rfl, (fun h => by rw [HF.out] at h; cases h), HG1.out⟩
    · obtain rfl : k = l.length := by omega
      have HT : Hid (r = true) := by
        show _ = _
        rw [← HR.out]
        have h := HM.out
        rwa [List.take_length] at h
      have HS9 : Hid (IdSet wr bm (m ++ ikeys l)) := by
        have h := HS.out
        rwa [List.take_length] at h
      clear HM HS
      go_wp2
      go_ret
      exact ⟨by rw [HT.out]; rfl, fun _ => HS9.out, HG.out⟩
set_option maxHeartbeats 2000000 in
set_option maxRecDepth 100000 in
theorem pmaker_any (x : Ptm) (bm : Nat) (w : World) :
    Calls Tryz.prog 97 #[.agg #[.string x.name, .slice x.a1 x.deps.length x.c1, .slice x.a2 x.ops.length x.c2], .map (some bm)] w fun e w' => ∃ g3 g2, e = .returned (.func (.func 119) #[] #[.pointer (some ⟨g3, 0, none⟩), .pointer (some ⟨g2, 0, none⟩)]) ∧ Caught w' g3 g2 bm x ∧ Below w.heap.size w w' := by
  obtain ⟨hb, hx⟩ := pat_box w x
  have hal : Below (w.alloc (.cells #[.string x.name, .slice x.a1 x.deps.length x.c1, .slice x.a2 x.ops.length x.c2] 35)).heap.size (w.alloc (.cells #[.string x.name, .slice x.a1 x.deps.length x.c1, .slice x.a2 x.ops.length x.c2] 35)) ((w.alloc (.cells #[.string x.name, .slice x.a1 x.deps.length x.c1, .slice x.a2 x.ops.length x.c2] 35)).alloc (.cells #[.map (some bm)] 114)) := (Below.refl _ _).alloc (Nat.le_refl _) _
  have hC : Caught ((w.alloc (.cells #[.string x.name, .slice x.a1 x.deps.length x.c1, .slice x.a2 x.ops.length x.c2] 35)).alloc (.cells #[.map (some bm)] 114)) (w.alloc (.cells #[.string x.name, .slice x.a1 x.deps.length x.c1, .slice x.a2 x.ops.length x.c2] 35)).heap.size w.heap.size bm x := ⟨by rw [World.cell?_alloc_new]; rfl, hx.on hal⟩
  have es : (w.alloc (.cells #[.string x.name, .slice x.a1 x.deps.length x.c1, .slice x.a2 x.ops.length x.c2] 35)).heap.size = w.heap.size + 1 := by simp
  rw [es] at hC
  have HC := Lib.hid hC
  have HB := Lib.hid (hb.trans (hal.mono hb.size))
  clear hb hx hal hC es
  go_enter Tryz.func97, Tryz.ntmps97
  go_wp2
  go_ret
  exact ⟨_, _, rfl, HC.out, HB.out⟩
set_option maxHeartbeats 2000000 in
set_option maxRecDepth 100000 in
theorem pknower_any (x : Ptm) (bm : Nat) (w : World) :
    Calls Tryz.prog 98 #[.agg #[.string x.name, .slice x.a1 x.deps.length x.c1, .slice x.a2 x.ops.length x.c2], .map (some bm)] w fun e w' => ∃ g3 g2, e = .returned (.func (.func 121) #[] #[.pointer (some ⟨g3, 0, none⟩), .pointer (some ⟨g2, 0, none⟩)]) ∧ Caught w' g3 g2 bm x ∧ Below w.heap.size w w' := by
  obtain ⟨hb, hx⟩ := pat_box w x
  have hal : Below (w.alloc (.cells #[.string x.name, .slice x.a1 x.deps.length x.c1, .slice x.a2 x.ops.length x.c2] 35)).heap.size (w.alloc (.cells #[.string x.name, .slice x.a1 x.deps.length x.c1, .slice x.a2 x.ops.length x.c2] 35)) ((w.alloc (.cells #[.string x.name, .slice x.a1 x.deps.length x.c1, .slice x.a2 x.ops.length x.c2] 35)).alloc (.cells #[.map (some bm)] 114)) := (Below.refl _ _).alloc (Nat.le_refl _) _
  have hC : Caught ((w.alloc (.cells #[.string x.name, .slice x.a1 x.deps.length x.c1, .slice x.a2 x.ops.length x.c2] 35)).alloc (.cells #[.map (some bm)] 114)) (w.alloc (.cells #[.string x.name, .slice x.a1 x.deps.length x.c1, .slice x.a2 x.ops.length x.c2] 35)).heap.size w.heap.size bm x := ⟨by rw [World.cell?_alloc_new]; rfl, hx.on hal⟩
  have es : (w.alloc (.cells #[.string x.name, .slice x.a1 x.deps.length x.c1, .slice x.a2 x.ops.length x.c2] 35)).heap.size = w.heap.size + 1 := by simp
  rw [es] at hC
  have HC := Lib.hid hC
  have HB := Lib.hid (hb.trans (hal.mono hb.size))
  clear hb hx hal hC es
  go_enter Tryz.func98, Tryz.ntmps98
  go_wp2
  go_ret
  exact ⟨_, _, rfl, HC.out, HB.out⟩
theorem pbsearch_any (A : Option Addr) (ls : List (List UInt8)) (cap : Nat) (x : ByteArray) (W : World) (hs : Strs W W.heap.size A (toBs ls)) (hr : Rising ls) (hn : ls.length ≤ 1000000) (r : Bool) (hd : decide (x.data.toList ∈ ls) = r) :
    Calls Tryz.prog 91 #[.slice A ls.length cap, .string x] W fun e w' => ∃ i : Int, e = .returned (.tuple #[.int .i64 i, .bool r]) ∧ Below W.heap.size W w' := by
  subst hd
  by_cases h0 : 0 < ls.length
  · obtain ⟨b, off, rfl, _, hcs⟩ := hs (by rw [toBs_len]; exact h0)
    obtain ⟨Sx, hS⟩ : ∃ Sx : Nat → ByteArray, ∀ t, Sx t = if h : t < ls.length then toB ls[t] else x := ⟨fun t => if h : t < ls.length then toB ls[t] else x, fun _ => rfl⟩
    have hsp := search_spec ls hr x Sx hS
    have hbs := Any2.slices_BinarySearch_string Tryz.laysBs b off ls.length cap Sx x W (by omega) (fun j hj => by rw [hcs j (by rw [toBs_len]; exact hj), hS j, dif_pos hj]; simp [toBs])
    change Calls _ 91 _ _ _ at hbs
    rw [hsp] at hbs
    refine hbs.mono ?_
    rintro e w1 ⟨rfl, q, rfl⟩
    exact ⟨_, rfl, below_drewN (Below.refl _ _) q⟩
  · obtain rfl : ls = [] := List.length_eq_zero_iff.1 (by omega)
    have hbs := Any2.slices_BinarySearch_string_empty Tryz.laysBs A cap x W
    change Calls _ 91 _ _ _ at hbs
    refine hbs.mono ?_
    rintro e w1 ⟨rfl, rfl⟩
    exact ⟨0, by simp, Below.refl _ _⟩
theorem knows_take (deps : List (List UInt8)) (m : List Ik) (l : List Im) (k : Nat) (hk : k < l.length) : knowsL deps m (ikeys (l.take (k + 1))) = (knowsL deps m (ikeys (l.take k)) && (decide (l[k].key ∈ m) || decide (l[k].key.1 ∈ deps))) := by
  rw [List.take_succ_eq_append_getElem hk, show ikeys (l.take k ++ [l[k]]) = ikeys (l.take k) ++ [l[k].key] by unfold ikeys; rw [List.map_append]; rfl]
  unfold knowsL
  rw [List.all_append]
  simp
theorem knows_part {deps : List (List UInt8)} {m : List Ik} {l : List Im} (k : Nat) (h : knowsL deps m (ikeys (l.take k)) = false) : knowsL deps m (ikeys l) = false := by
  have e : ikeys l = ikeys (l.take k) ++ ikeys (l.drop k) := by unfold ikeys; rw [← List.map_append, List.take_append_drop]
  unfold knowsL at *
  rw [e, List.all_append, h]
  rfl
set_option maxHeartbeats 4000000 in
set_option maxRecDepth 100000 in
theorem knower1_any (g3 g2 bm : Nat) (x : Ptm) (m : List Ik) (A : Option Addr) (l : List Im) (c : Nat) (w : World) (hC : Caught w g3 g2 bm x) (hS : IdSet w bm m) (hd : Strs w w.heap.size x.a1 (toBs x.deps)) (hri : Rising x.deps) (hdn : x.deps.length ≤ 1000000) (hl : Ids w w.heap.size A l) (hn : l.length ≤ 100000) (hok : ∀ i ∈ l, i.Ok) (r : Bool) (hr : knowsL x.deps m (ikeys l) = r) :
    Calls Tryz.prog 121 #[.slice A l.length c, .pointer (some ⟨g3, 0, none⟩), .pointer (some ⟨g2, 0, none⟩)] w fun e w' => e = .returned (.bool r) ∧ Below w.heap.size w w' := by
  have HC0 := Lib.hid hC
  have HS0 := Lib.hid hS
  have HL0 := Lib.hid hl
  have HD0 := Lib.hid hd
  have HG0 : Hid (Below w.heap.size w w) := Below.refl _ _
  have HOK := Lib.hid hok
  have HR := Lib.hid hr
  have HRI := Lib.hid hri
  have HM0 : Hid (knowsL x.deps m (ikeys (l.take 0)) = true) := rfl
  clear hC hS hl hok hr hd hri
  go_enter Tryz.func121, Tryz.ntmps121
  go_wp2_with fail
  go_loopw [13] (fun iv wr => ∃ k : Nat, iv = .int .i64 (k : Int) ∧ k ≤ l.length ∧ Hid (knowsL x.deps m (ikeys (l.take k)) = true) ∧ Hid (Below w.heap.size w wr)) (fun iv _ => l.length - (intOf iv).toNat)
  case atStart => exact ⟨0, rfl, Nat.zero_le _, HM0.out, HG0.out⟩
  case round =>
    clear HM0 HG0
    obtain ⟨k, rfl, hk, HM, HG⟩ := hrel
    by_cases hlt : k < l.length
    · obtain ⟨b, off, rfl, hbB, d0, d1⟩ := ids_get (HL0.out.on HG.out) hlt
      have hyo : l[k].Ok := HOK.out l[k] (List.getElem_mem _)
      have hst := knows_take x.deps m l k hlt
      rw [HM.out, Bool.true_and] at hst
      have hpart : knowsL x.deps m (ikeys (l.take (k + 1))) = false → knowsL x.deps m (ikeys l) = false := knows_part (k + 1)
      obtain ⟨y, hy⟩ : ∃ y, l[k] = y := ⟨_, rfl⟩
      rw [hy] at d0 d1 hyo hst
      have hal : Below wr.heap.size wr (wr.alloc (.cells #[.string y.p, .int .i64 y.n] 81)) := (Below.refl _ _).alloc (Nat.le_refl _) _
      have HY := Lib.hid (id_new wr y.p y.n)
      have HG1 := Lib.hid (HG.out.trans (hal.mono HG.out.size))
      have HYO := Lib.hid hyo
      have HST := Lib.hid hst
      have HPT := Lib.hid hpart
      have u0 : (0 : Int) ≤ (k : Int) := by omega
      have u1 : (k : Int) < (l.length : Int) := by omega
      clear hyo hst hpart hy hal HG HM
      go_upto_region 4 with (fail)
      generalize (wr.alloc (.cells #[.string y.p, .int .i64 y.n] 81)) = wa at *
      generalize wr.heap.size = gy at *
      clear d0 d1 hbB
      have y0 := id_c0 HY.out
      have y1 := id_c1 HY.out
      have c0 := (HC0.out.on HG1.out).c
      have HS1 := Lib.hid (HS0.out.on HG1.out)
      obtain ⟨q, hq⟩ : ∃ q, decide (y.key ∈ m) = q := ⟨_, rfl⟩
      have HQ := Lib.hid hq
      rw [hq] at HST
      clear hq
      go_upto_region 5 with (at_lookup; refine wpList_look_id rfl _ _ rfl bm m y rfl rfl HS1.out HYO.out q HQ.out ?_)
      have hal : Below wa.heap.size wa (wa.alloc (.cells #[] 47)) := (Below.refl _ _).alloc (Nat.le_refl _) _
      replace HY := Lib.hid (HY.out.on hal)
      replace HG1 := Lib.hid (HG1.out.trans (hal.mono HG1.out.size))
      clear hal y0 y1 c0 HS1
      generalize (wa.alloc (.cells #[] 47)) = wb at *
      have y0 := id_c0 HY.out
      have y1 := id_c1 HY.out
      have p1 := (HC0.out.on HG1.out).p.c1
      obtain ⟨o, ho⟩ : ∃ o, decide (y.p.data.toList ∈ x.deps) = o := ⟨_, rfl⟩
      have CB := Lib.hid (pbsearch_any x.a1 x.deps x.c1 y.p wb (HD0.out.on HG1.out) HRI.out hdn o ho)
      rw [show decide (y.key.1 ∈ x.deps) = o from ho] at HST
      clear ho
      go_upto_region 6 with (go_at_call 91; refine CB.out.mono ?_; rintro e w2 ⟨ix, rfl, hb2⟩)
      have HG2 := Lib.hid (HG1.out.trans (hb2.mono HG1.out.size))
      clear hb2 CB y0 y1 p1 HY HG1
      cases hv : (q || o)
      · have hqo : q = false ∧ o = false := by cases q <;> cases o <;> simp_all
        obtain ⟨rfl, rfl⟩ := hqo
        have HF : Hid (r = false) := by
          show _ = _
          rw [← HR.out]
          exact HPT.out HST.out
        clear HST HPT hv
        go_wp2
        go_ret
        exact ⟨by rw [HF.out]; rfl, HG2.out⟩
      · rw [hv] at HST
        have HM2 := HST
        clear HST HPT
        cases q
        · have ho : o = true := by simpa using hv
          subst ho
          clear hv
          go_wp2
          go_roundw
          case rel => exact ⟨k + 1, by go_num, by omega, HM2.out, HG2.out⟩
          case measure => simp [intOf]; omega
        · clear hv
          go_wp2
          go_roundw
          case rel => exact ⟨k + 1, by go_num, by omega, HM2.out, HG2.out⟩
          case measure => simp [intOf]; omega
    · obtain rfl : k = l.length := by omega
      have HT : Hid (r = true) := by
        show _ = _
        rw [← HR.out]
        have h := HM.out
        rwa [List.take_length] at h
      clear HM
      go_wp2
      go_ret
      exact ⟨by rw [HT.out]; rfl, HG.out⟩
end Go.Proofs.YtifkpelcdihdoaaGreatDoor
