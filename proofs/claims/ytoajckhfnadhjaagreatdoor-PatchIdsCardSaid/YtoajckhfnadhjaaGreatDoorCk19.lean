/- A patch's bytes read: its name, its lists; what comes of them is a patch's bytes, and of a patch's bytes comes the patch. Words for memory: a map whose keys are ids, told as a set of ids. Which operations a patch may have, told one by one, as they are looked at from the first one on. name.Set: the texts as a set, in a row of its own. name.among: a function that asks a set; slices.DeleteFunc over a row that the call owns. -/
import Derived.Maps.OwnSet
import Derived.DeepKeys4
import Derived.Test.YtoajckhfnadhjaaGreatDoorCk18
import Derived.Test.YtoajckhfnadhjaaGreatDoorCk43
namespace Go.Proofs.YtoajckhfnadhjaaGreatDoor
open Go.RowKit
set_option linter.unusedVariables false

theorem sText_back {l t : List UInt8} {s : St} (h : sText (l, 0) = (t, s)) (h0 : s.2 = 0) : l = textB t ++ s.1 := by
  unfold sText at h
  rw [if_pos rfl] at h
  simp only [Prod.mk.injEq] at h
  obtain ⟨h1, h2⟩ := h
  have e : rText l = (t, 0, s.1) := by
    have h3 : (rText l).2.1 = 0 := by rw [← h2] at h0; exact h0
    have h4 : (rText l).2.2 = s.1 := by rw [← h2]
    exact Prod.ext h1 (Prod.ext h3 h4)
  exact rText_back e
theorem sList_back {l : List UInt8} {ls : List (List UInt8)} {s : St} (h : sList (l, 0) = (ls, s)) (h0 : s.2 = 0) : l = listB ls ++ s.1 := by
  unfold sList at h
  rw [if_pos rfl] at h
  simp only [Prod.mk.injEq] at h
  obtain ⟨h1, h2⟩ := h
  have e : rList l = (ls, 0, s.1) := by
    have h3 : (rList l).2.1 = 0 := by rw [← h2] at h0; exact h0
    have h4 : (rList l).2.2 = s.1 := by rw [← h2]
    exact Prod.ext h1 (Prod.ext h3 h4)
  exact rList_back e
theorem sList_stop {s : St} (h : s.2 ≠ 0) : sList s = ([], s) := by unfold sList; rw [if_neg h]
/-- What is read of a patch's bytes. -/
structure ReadsP (l : List UInt8) (t : List UInt8) (ds os : List (List UInt8)) (s3 : St) : Prop where
  ex : ∃ s1 s2 : St, sText (l, 0) = (t, s1) ∧ sList s1 = (ds, s2) ∧ sList s2 = (os, s3)
theorem readsP (l : List UInt8) : ReadsP l (sText (l, 0)).1 (sList (sText (l, 0)).2).1 (sList (sList (sText (l, 0)).2).2).1 (sList (sList (sText (l, 0)).2).2).2 := ⟨_, _, rfl, rfl, rfl⟩
theorem ReadsP.back {l t : List UInt8} {ds os : List (List UInt8)} {s3 : St} (h : ReadsP l t ds os s3) (h0 : s3.2 = 0) (h1 : s3.1 = []) : l = textB t ++ (listB ds ++ (listB os ++ [])) := by
  obtain ⟨s1, s2, e1, e2, e3⟩ := h.ex
  have z2 : s2.2 = 0 := Decidable.byContradiction fun hne => by
    rw [sList_stop hne] at e3
    simp only [Prod.mk.injEq] at e3
    rw [← e3.2] at h0
    exact hne h0
  have z1 : s1.2 = 0 := Decidable.byContradiction fun hne => by
    rw [sList_stop hne] at e2
    simp only [Prod.mk.injEq] at e2
    rw [← e2.2] at z2
    exact hne z2
  have b1 := sText_back e1 z1
  obtain ⟨l1, k1⟩ := s1
  obtain ⟨l2, k2⟩ := s2
  obtain ⟨l3, k3⟩ := s3
  simp only at z1 z2 h0 h1
  subst z1 z2 h0 h1
  have b2 := sList_back e2 rfl
  have b3 := sList_back e3 rfl
  simp only at b1 b2 b3
  rw [b1, b2, b3]
theorem ReadsP.put {l t : List UInt8} {ds os : List (List UInt8)} {s3 : St} (h : ReadsP l t ds os s3) {p : PatK} (hp : checkP p = 0) (hd : p.deps.length ≤ 9223372036854775807) (he : putP p = l) : t = p.name ∧ ds = p.deps ∧ os = p.ops.map putO ∧ s3 = ([], 0) := by
  obtain ⟨s1, s2, e1, e2, e3⟩ := h.ex
  obtain ⟨na, ma⟩ := checkP_ok.1 hp
  unfold namesP13 at na
  simp only [Bool.and_eq_true, List.all_eq_true] at na
  have oa := may_ops ma
  have fa := may_few ma
  have nm : ∀ {l : List UInt8}, nameK l = true → l.length < 18446744073709551616 := fun h => Nat.lt_of_le_of_lt (name_len h) (by decide)
  rw [← he] at e1
  unfold putP at e1
  rw [sText_text _ _ (nm na.1)] at e1
  simp only [Prod.mk.injEq] at e1
  obtain ⟨rfl, rfl⟩ := e1
  rw [sList_list _ _ (by omega) (fun x hx => nm (na.2 x hx))] at e2
  simp only [Prod.mk.injEq] at e2
  obtain ⟨rfl, rfl⟩ := e2
  rw [sList_list _ _ (by rw [List.length_map]; omega) (fun x hx => by
    obtain ⟨o, ho, rfl⟩ := List.mem_map.1 hx
    obtain ⟨h1, h2, h3⟩ := putO_le (oa o ho)
    omega)] at e3
  simp only [Prod.mk.injEq] at e3
  obtain ⟨rfl, rfl⟩ := e3
  exact ⟨rfl, rfl, rfl, rfl⟩
/-- Bytes that end too early, or are no numbers: no patch's. -/
theorem ReadsP.none {l t : List UInt8} {ds os : List (List UInt8)} {s3 : St} (h : ReadsP l t ds os s3) (hne : s3.2 ≠ 0 ∨ s3.1 ≠ []) : ∀ p : PatK, p.deps.length ≤ 9223372036854775807 → checkP p = 0 → putP p ≠ l := fun p hd hp he => by
  obtain ⟨_, _, _, h4⟩ := h.put hp hd he
  rw [h4] at hne
  simp at hne
theorem ReadsP.noop {l t : List UInt8} {ds os : List (List UInt8)} {s3 : St} (h : ReadsP l t ds os s3) (hne : ∃ x ∈ os, ∀ k, mayO k = true → putO k ≠ x) : ∀ p : PatK, p.deps.length ≤ 9223372036854775807 → checkP p = 0 → putP p ≠ l := fun p hd hp he => by
  obtain ⟨_, _, h3, _⟩ := h.put hp hd he
  obtain ⟨x, hx, hn⟩ := hne
  rw [h3] at hx
  obtain ⟨o, ho, rfl⟩ := List.mem_map.1 hx
  exact hn o (may_ops (checkP_ok.1 hp).2 o ho) rfl
/-- Of which operations came the bytes: the patch is one, or none has these bytes. -/
theorem ReadsP.one {l t : List UInt8} {ds os : List (List UInt8)} {s3 : St} (h : ReadsP l t ds os s3) {ks : List OpK} (hk : ks.map putO = os) (hm : ∀ k ∈ ks, mayO k = true) : ∀ p : PatK, p.deps.length ≤ 9223372036854775807 → checkP p = 0 → putP p = l → p = ⟨t, ds, ks⟩ := fun p hd hp he => by
  obtain ⟨h1, h2, h3, _⟩ := h.put hp hd he
  have h4 : p.ops = ks := map_putO (may_ops (checkP_ok.1 hp).2) hm (by rw [← h3, hk])
  obtain ⟨n, d, o⟩ := p
  simp only at h1 h2 h4
  rw [h1, h2, h4]
theorem ReadsP.puts {l t : List UInt8} {ds os : List (List UInt8)} {s3 : St} (h : ReadsP l t ds os s3) (h0 : s3.2 = 0) (h1 : s3.1 = []) {ks : List OpK} (hk : ks.map putO = os) : putP ⟨t, ds, ks⟩ = l := by
  rw [h.back h0 h1]
  unfold putP
  rw [hk]
end Go.Proofs.YtoajckhfnadhjaaGreatDoor
namespace Go.Proofs.YtoajckhfnadhjaaGreatDoor
open Go.RowKit
open Go.Maps (Keyed IsMap)
set_option linter.unusedVariables false

theorem idkey_laid : laidOutB Tryz.prog = true := by kernel_rfl
theorem idkey_lt : decide (40 < Tryz.prog.types.size) = true := by kernel_rfl
theorem idkey_row : (40 : TypeId) < Tryz.prog.types.size := of_decide_eq_true idkey_lt
theorem idkey_wide : (match Tryz.prog.underlying 40 with | some (.array _ _) | some (.struct _) => true | _ => false) = true := by rw [Tryz.underlying40]
theorem idkey_at : Tryz.prog.keyTypeAt 3 40 = true := by kernel_rfl
theorem idkey_law {P : Program} {k : TypeId} (h1 : laidOutB P = true) (h2 : k < P.types.size) (h3 : P.keyTypeAt 3 k = true) (h4 : (match P.underlying k with | some (.array _ _) | some (.struct _) => true | _ => false) = true) : Keyed P k := Keyed.of_law (deep_law_laid h1 (m := 3) (by decide) h2 h3 h4)
theorem idK : Keyed Tryz.prog 40 := idkey_law idkey_laid idkey_row idkey_at idkey_wide
theorem idkey_type : Tryz.prog.keyType 40 = true := by kernel_rfl
theorem idkey_cells : Tryz.prog.cellsOf 40 = 2 := by kernel_rfl
theorem idkey_c1 : Tryz.prog.cellsOf 9 = 1 := by kernel_rfl
theorem idkey_c2 : Tryz.prog.cellsOf 3 = 1 := by kernel_rfl
theorem idkey_formed (x : Im) : (Value.agg #[.string x.p, .int .i64 x.n]).formed Tryz.prog 40 = true := by simp [Value.formed, Tryz.underlying40, idkey_cells]
theorem size_succ {n k : Nat} (h : k < n) : ∃ m, n = m + 1 := ⟨n - 1, by omega⟩
theorem idkey_size : ∃ m, Tryz.prog.types.size = m + 1 := size_succ idkey_row
theorem idkey_und : Tryz.prog.underlying 110 = some (.map 40 129) := Tryz.underlying110
theorem idkey_zero (w : World) : (zeroValue 129).run Tryz.prog w = .ok (.agg #[]) w := by kernel_rfl
/-- An id is a key. -/
theorem id_keyOf (x : Im) (hx : x.Ok) : ∃ kl, keyOf Tryz.prog 40 (.agg #[.string x.p, .int .i64 x.n]) = some kl := by
  obtain ⟨m, hm⟩ := idkey_size
  have h1 : x.p.size ≤ maxLen := by have := hx.1; unfold maxLen; omega
  have h2 : (Lit.int .i64 x.n).wf = true := WalkArith.wf_i64 hx.2
  unfold keyOf
  rw [Tryz.underlying40]
  simp only [idkey_type, idkey_formed, Bool.and_self, if_true, hm]
  simp [Program.keyLits, Tryz.underlying40, Tryz.underlying9, Tryz.underlying3, idkey_cells, idkey_c1, idkey_c2, Value.cells, h1, h2]
theorem id_keyLit (x : Im) : ∃ kl, x.Ok → keyOf Tryz.prog 40 (.agg #[.string x.p, .int .i64 x.n]) = some kl := by
  by_cases hx : x.Ok
  · obtain ⟨kl, h⟩ := id_keyOf x hx
    exact ⟨kl, fun _ => h⟩
  · exact ⟨.bool true, fun h => absurd h hx⟩
noncomputable def idLit (x : Im) : Lit := Classical.choose (id_keyLit x)
theorem idLit_is (x : Im) (hx : x.Ok) : keyOf Tryz.prog 40 (.agg #[.string x.p, .int .i64 x.n]) = some (idLit x) := Classical.choose_spec (id_keyLit x) hx
theorem key_lit {P : Program} {k : TypeId} (K : Keyed P k) {v : Value} {l : Lit} (h : keyOf P k v = some l) : WideAt.IsKeyLit l := K.key h
theorem idLit_key (x : Im) (hx : x.Ok) : WideAt.IsKeyLit (idLit x) := by
  have h := idLit_is x hx
  generalize idLit x = l at *
  exact key_lit idK h
theorem idLit_inj {x y : Im} (hx : x.Ok) (hy : y.Ok) (h : idLit x = idLit y) : x = y := by
  have h1 := idLit_is x hx
  rw [h] at h1
  have h2 := idK.inj h1 (idLit_is y hy)
  obtain ⟨p, n⟩ := x
  obtain ⟨q, m⟩ := y
  simp only [Value.agg.injEq, Array.mk.injEq, List.cons.injEq, Value.string.injEq, Value.int.injEq, true_and, and_true] at h2
  rw [h2.1, h2.2]
theorem has_self {D : DataW Unit} (hD : IsMap D) (y : Im) (hy : y.Ok) : Maps.has (D.put (idLit y) (.agg [])) (idLit y) = true := by
  have hk := idLit_key y hy
  generalize idLit y = ky at *
  exact Maps.has_put_same hD hk _
/-- Block b is a map whose keys are these ids. -/
def IdSet (w : World) (b : Nat) (l : List Ik) : Prop := ∃ (n : Nat) (D : DataW Unit), n ≤ l.length ∧ w.ownsMap Tryz.prog 40 unitElem b n D ∧ ∀ x : Im, x.Ok → Maps.has D (idLit x) = decide (x.key ∈ l)
theorem IdSet.made (w : World) : IdSet (w.alloc (.map #[] 0)) w.heap.size [] :=
  ⟨0, .map [], Nat.le_refl _, World.ownsMap_made _ _ _ _, fun x _ => by simp [Maps.has_eq]⟩
theorem IdSet.lt {w : World} {b : Nat} {l : List Ik} (h : IdSet w b l) : b < w.heap.size := by
  obtain ⟨n, D, _, ho, _⟩ := h
  exact ho.lt
theorem IdSet.grown {w w' : World} {b : Nat} {l : List Ik} {row : Option Nat} (h : IdSet w b l) (hg : w.grownBy w' row) (hr : row ≠ some b) : IdSet w' b l := by
  obtain ⟨n, D, hn, ho, hh⟩ := h
  exact ⟨n, D, hn, ho.kept hg (fun e => hr e.symm), hh⟩
theorem IdSet.on {w w' : World} {b : Nat} {l : List Ik} (h : IdSet w b l) (hb : Below w.heap.size w w') : IdSet w' b l :=
  h.grown (row := none) ⟨hb.os, hb.tape, hb.output, hb.size, fun i hi _ => hb.block i hi⟩ (by simp)
/-- A map is no row. -/
theorem IdSet.ne_cells {w : World} {b g : Nat} {l : List Ik} {cs : Array Value} {t : TypeId} {f : Nat × Nat} (h : IdSet w b l) (hg : w.heap[g]? = some (.cells cs t f)) : b ≠ g := by
  obtain ⟨n, D, _, ⟨es, clock, hb, _⟩, _⟩ := h
  rintro rfl
  rw [hg] at hb
  cases hb
theorem IdSet.ne_cell {w : World} {b g o : Nat} {l : List Ik} {u : Value} (h : IdSet w b l) (hc : w.cell? ⟨g, o, none⟩ = some u) : b ≠ g := by
  obtain ⟨n, D, _, ⟨es, clock, hb, _⟩, _⟩ := h
  rintro rfl
  unfold World.cell? at hc
  simp [hb] at hc
theorem wpList_look_id {w : World} {ops : Array Oper} {rest : List Oper} {o : Oper} {a : Act} {Q : Exit → Act → World → Prop} (hg : o.guard = none) (m x : Operand) (hop : o.op = Op.lookup 110 m x true)
    (b : Nat) (l : List Ik) (y : Im) (hm : a.eval m = .map (some b)) (hx : a.eval x = .agg #[.string y.p, .int .i64 y.n]) (hs : IdSet w b l) (hy : y.Ok) (r : Bool) (hr : decide (y.key ∈ l) = r)
    (hK : wpList Tryz.prog ops Q rest (a.put o.dst (.tuple #[.agg #[], .bool r])) w) : wpList Tryz.prog ops Q (o :: rest) a w := by
  obtain ⟨n, D, hn, ho, hh⟩ := hs
  refine wpList_lookup_own_unit w hg m x _ hop _ _ idK idkey_und (idkey_zero w) b n D hm ho _ (idLit y) hx (idLit_is y hy) ?_
  rw [hh y hy, hr]
  exact hK
theorem wpList_put_id {w : World} {ops : Array Oper} {rest : List Oper} {o : Oper} {a : Act} {Q : Exit → Act → World → Prop} (hg : o.guard = none) (m x v : Operand) (hop : o.op = Op.mapUpdate 110 m x v)
    (b : Nat) (l : List Ik) (y : Im) (hm : a.eval m = .map (some b)) (hx : a.eval x = .agg #[.string y.p, .int .i64 y.n]) (hv : a.eval v = .agg #[]) (hs : IdSet w b l) (hy : y.Ok) (hl : l.length ≤ 1000000000000)
    (hK : ∀ w', IdSet w' b (l ++ [y.key]) → w.grownBy w' (some b) → wpList Tryz.prog ops Q rest (a.put o.dst undef) w') : wpList Tryz.prog ops Q (o :: rest) a w := by
  obtain ⟨n, D, hn, ho, hh⟩ := hs
  refine wpList_mapUpdate_own w hg m x v _ hop _ _ idK idkey_und unitElem b n D hm ho (by unfold maxLen; omega) _ _ (idLit y) hx hv (idLit_is y hy) (.agg []) [] unitElem_mk ?_
  intro w' h1 h2
  refine hK w' ⟨n + 1, _, by rw [List.length_append]; simp; omega, h1, fun z hz => ?_⟩ h2
  by_cases e : z = y
  · subst e
    rw [has_self ho.isMap z hz]
    simp
  · rw [Maps.has_put_other (fun h => e (idLit_inj hz hy h)), hh z hz]
    simp only [List.mem_append, List.mem_singleton]
    exact decide_eq_decide.2 ⟨.inl, fun h => h.elim id (fun h2 => absurd (Im.key_inj h2) e)⟩
end Go.Proofs.YtoajckhfnadhjaaGreatDoor
namespace Go.Proofs.YtoajckhfnadhjaaGreatDoor
open Go.RowKit
set_option linter.unusedVariables false

/-- Are these of the patch, none made before, none twice? -/
def makesL (name : List UInt8) : List Ik → List Ik → Bool
  | _, [] => true
  | m, i :: r => !decide (i ∈ m) && decide (i.1 = name) && okK i && makesL name (m ++ [i]) r
/-- Is each made, or of a patch that is hung on? -/
def knowsL (deps : List (List UInt8)) (m l : List Ik) : Bool := l.all fun i => decide (i ∈ m) || decide (i.1 ∈ deps)
def stepO (name : List UInt8) (deps : List (List UInt8)) (m : List Ik) (o : OpK) : Bool := mayO o && makesL name m (comesO name o) && knowsL deps (m ++ comesO name o) (idsO o)
def stepsO (name : List UInt8) (deps : List (List UInt8)) : List Ik → List OpK → Bool
  | _, [] => true
  | m, o :: r => stepO name deps m o && stepsO name deps (m ++ comesO name o) r

theorem makes_iff (name : List UInt8) : ∀ (l m : List Ik), makesL name m l = true ↔ (∀ i ∈ l, i.1 = name ∧ okK i = true) ∧ l.Nodup ∧ ∀ i ∈ l, i ∉ m
  | [], m => by simp [makesL]
  | i :: r, m => by
    have ih := makes_iff name r (m ++ [i])
    unfold makesL
    rw [Bool.and_eq_true, Bool.and_eq_true, Bool.and_eq_true, ih]
    simp only [Bool.not_eq_true', decide_eq_false_iff_not, decide_eq_true_eq, List.mem_cons, List.nodup_cons, List.mem_append, List.not_mem_nil, or_false]
    constructor
    · rintro ⟨⟨⟨h1, h2⟩, h3⟩, h4, h5, h6⟩
      refine ⟨?_, ⟨fun h => h6 i h (.inr rfl), h5⟩, ?_⟩
      · rintro x (rfl | hx)
        · exact ⟨h2, h3⟩
        · exact h4 x hx
      · rintro x (rfl | hx)
        · exact h1
        · exact fun h => h6 x hx (.inl h)
    · rintro ⟨h1, ⟨h2, h3⟩, h4⟩
      refine ⟨⟨⟨h4 i (.inl rfl), (h1 i (.inl rfl)).1⟩, (h1 i (.inl rfl)).2⟩, fun x hx => h1 x (.inr hx), h3, ?_⟩
      rintro x hx (h | rfl)
      · exact h4 x (.inr hx) h
      · exact h2 hx
theorem comes_low {name : List UInt8} {o : OpK} (h : mayO o = true) : ∀ i ∈ comesO name o, 0 ≤ i.2 := by
  intro i hi
  have ho := op_ok h
  unfold comesO at hi
  split at hi
  · simp only [List.mem_singleton] at hi
    subst hi
    exact (okK_n ho.self).1
  · split at hi
    · unfold rowI at hi
      split at hi
      · obtain ⟨k, _, rfl⟩ := List.mem_map.1 hi
        have := ho.first.1
        show (0 : Int) ≤ o.first + (k : Int)
        omega
      · simp at hi
    · simp at hi
theorem ok_named {name : List UInt8} (hn : nameK name = true) {i : Ik} (hi : i.1 = name) (h0 : 0 ≤ i.2) : okK i = true ↔ i.2 ≤ 1048576 := by
  have hne : i.1 ≠ [] := fun e => by
    rw [hi] at e
    subst e
    revert hn
    decide
  unfold okK okI
  rw [if_neg hne, hi, Bool.and_eq_true, decide_eq_true_eq]
  exact ⟨fun h => h.2.2, fun h => ⟨hn, h0, h⟩⟩
theorem own_iff {name : List UInt8} {l : List Ik} : ownP name l = true ↔ (∀ i ∈ l, i.1 = name ∧ i.2 ≤ 1048576) ∧ l.Nodup := by
  unfold ownP
  rw [Bool.and_eq_true, List.all_eq_true, decide_eq_true_eq]
  simp only [decide_eq_true_eq]
theorem made_app (name : List UInt8) (a b : List OpK) : madeP name (a ++ b) = madeP name a ++ madeP name b := by simp [madeP]
theorem made_one (name : List UInt8) (o : OpK) : madeP name [o] = comesO name o := by simp [madeP]
theorem own_step {name : List UInt8} (hn : nameK name = true) {o : OpK} (hm : mayO o = true) {d : List Ik} (hd : ownP name d = true) : ownP name (d ++ comesO name o) = true ↔ makesL name d (comesO name o) = true := by
  rw [makes_iff, own_iff]
  obtain ⟨h1, h2⟩ := own_iff.1 hd
  constructor
  · rintro ⟨h3, h4⟩
    rw [List.nodup_append] at h4
    refine ⟨fun i hi => ?_, h4.2.1, fun i hi h => h4.2.2 i h i hi rfl⟩
    obtain ⟨e1, e2⟩ := h3 i (List.mem_append.2 (.inr hi))
    exact ⟨e1, (ok_named hn e1 (comes_low hm i hi)).2 e2⟩
  · rintro ⟨h3, h4, h5⟩
    refine ⟨fun i hi => ?_, ?_⟩
    · rcases List.mem_append.1 hi with hi | hi
      · exact h1 i hi
      · exact ⟨(h3 i hi).1, (ok_named hn (h3 i hi).1 (comes_low hm i hi)).1 (h3 i hi).2⟩
    · rw [List.nodup_append]
      exact ⟨h2, h4, fun a ha b hb e => h5 b hb (e ▸ ha)⟩
theorem own_left {name : List UInt8} {a b : List Ik} (h : ownP name (a ++ b) = true) : ownP name a = true := by
  obtain ⟨h1, h2⟩ := own_iff.1 h
  rw [List.nodup_append] at h2
  exact own_iff.2 ⟨fun i hi => h1 i (List.mem_append.2 (.inl hi)), h2.1⟩
theorem knows_eq {name : List UInt8} {deps : List (List UInt8)} (hd : name ∉ deps) {m : List Ik} (hm : ownP name m = true) (l : List Ik) : knowsL deps m l = l.all (knownI name deps m) := by
  unfold knowsL
  congr 1
  funext i
  unfold knownI
  by_cases h : i.1 = name
  · rw [if_pos h, h, decide_eq_false hd, Bool.or_false]
  · rw [if_neg h, decide_eq_false (fun hi => h ((own_iff.1 hm).1 i hi).1), Bool.false_or]
theorem steps_iff {name : List UInt8} {deps : List (List UInt8)} (hn : nameK name = true) (hd : name ∉ deps) : ∀ (l d : List OpK), ownP name (madeP name d) = true →
    (stepsO name deps (madeP name d) l = true ↔ asksP name deps d l = true ∧ ownP name (madeP name (d ++ l)) = true)
  | [], d, hm => by simp [stepsO, asksP, hm]
  | o :: r, d, hm => by
    have e1 : madeP name (d ++ [o]) = madeP name d ++ comesO name o := by rw [made_app, made_one]
    have e2 : d ++ o :: r = (d ++ [o]) ++ r := by simp
    unfold stepsO asksP stepO
    rw [Bool.and_eq_true, Bool.and_eq_true, Bool.and_eq_true, Bool.and_eq_true, Bool.and_eq_true]
    constructor
    · rintro ⟨⟨⟨h1, h2⟩, h3⟩, h4⟩
      have h5 := (own_step hn h1 hm).2 h2
      rw [knows_eq hd h5] at h3
      rw [← e1] at h3 h4 h5
      obtain ⟨h6, h7⟩ := (steps_iff hn hd r (d ++ [o]) h5).1 h4
      exact ⟨⟨⟨h1, h3⟩, h6⟩, by rw [e2]; exact h7⟩
    · rintro ⟨⟨⟨h1, h3⟩, h6⟩, h7⟩
      rw [e2] at h7
      have h5 : ownP name (madeP name (d ++ [o])) = true := by
        rw [made_app] at h7
        exact own_left h7
      have h4 := (steps_iff hn hd r (d ++ [o]) h5).2 ⟨h6, h7⟩
      rw [e1] at h3 h4 h5
      rw [← knows_eq hd h5] at h3
      exact ⟨⟨⟨h1, (own_step hn h1 hm).1 h5⟩, h3⟩, h4⟩
/-- Is what it hangs on as a set has it, and others alone? -/
def hungP (p : PatK) : Bool := decide (p.deps = setS p.deps) && !decide (p.name ∈ p.deps)
/-- May what it does be? -/
def doneP (p : PatK) : Bool := decide (p.ops.length ≤ 2000) && stepsO p.name p.deps [] p.ops
theorem may_is {p : PatK} (hn : nameK p.name = true) : mayP p = (hungP p && doneP p) := by
  unfold mayP hungP doneP
  by_cases hd : p.name ∈ p.deps
  · simp [hd]
  · have h := steps_iff hn hd p.ops [] (by simp [madeP, ownP])
    rw [show madeP p.name [] = [] from rfl, List.nil_append] at h
    have h2 : stepsO p.name p.deps [] p.ops = (asksP p.name p.deps [] p.ops && ownP p.name (madeP p.name p.ops)) := by
      rw [Bool.eq_iff_iff, Bool.and_eq_true]
      exact h
    rw [h2, show decide (setS p.deps = p.deps) = decide (p.deps = setS p.deps) from decide_eq_decide.2 ⟨Eq.symm, Eq.symm⟩]
    cases decide (p.deps = setS p.deps) <;> cases decide (p.ops.length ≤ 2000) <;> simp [hd]
theorem check_is (p : PatK) : checkP p = if nameK p.name && p.deps.all nameK then (if hungP p && doneP p then 0 else 2) else 7 := by
  unfold checkP namesP13
  by_cases h : (nameK p.name && p.deps.all nameK) = true
  · rw [if_pos h, if_pos h, may_is (Bool.and_eq_true_iff.1 h).1]
  · rw [if_neg h, if_neg h]
end Go.Proofs.YtoajckhfnadhjaaGreatDoor
