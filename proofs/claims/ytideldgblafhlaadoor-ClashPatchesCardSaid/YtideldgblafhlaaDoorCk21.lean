/- Package clash does what it is to do: its contracts, and awake. What a slice of strings that comes in holds. What ids that come in hold. What an operation that comes in holds. What a patch that comes in holds. Operations and patches that come in, whatever their sizes: what memory may hold. What the laid variables of layer 12's rows give: the library's powers of ten, both errors, unicode/utf8's two tables; a world that has them. -/
import Derived.Lib.SlicesCompact
import Derived.Test.YtideldgblafhlaaDoorShelf
import Derived.BigQuiet
import Derived.Deep.QuietTactic
import Derived.Test.YtideldgblafhlaaDoorProg
import Derived.WalkKit
import Derived.WalkSpells
import Derived.Handy
import Derived.Lib.Hide
import Derived.Shelf.Strings.BuilderK
import Derived.ChangeOld
import Derived.SliceStrings
import Derived.WideShapes
import Derived.Deep.Slices
import Derived.Deep.Fields
import Derived.ChangeSame
import Derived.ChangeArms
import Derived.SizedLaws
import Derived.Test.YtideldgblafhlaaDoorRows
import Derived.Stop.LaidErr
import Derived.LaidMore
import Derived.MakeChecks
import Derived.Lib.LaidU8
import Derived.PinnedBridge
import Derived.Lay
import Derived.Test.YtideldgblafhlaaDoorCk20
namespace Go.Proofs.YtideldgblafhlaaDoor
open Go.RowKit
set_option linter.unusedVariables false

theorem opsR_in {w : World} {p : Ptm} (h : p.Ok w w.heap.size) (hi : OsIn w p.a2 p.ops) : OpsR w w.heap.size p.a2 p.ops := opsR_of h hi.may (Nat.le_trans hi.few (by decide))
theorem whys_few {w : World} {p q : Ptm} (hp : OsIn w p.a2 p.ops) (hq : OsIn w q.a2 q.ops) : (whysG (okeys q.ops) 0 (okeys p.ops)).length ≤ 1000000 := by
  refine Nat.le_trans (whysG_len _ _) ?_
  rw [okeys_len, okeys_len]
  exact Nat.le_trans (Nat.mul_le_mul hp.few hq.few) (by decide)
theorem clash_c : ClashC where
  places := fun x w h _ hN => cplacesT_any x w h.ok (Nat.le_trans h.lt.parent (by decide)) (Nat.le_trans h.lt.dst (by decide)) hN
  ops := fun x y w hx hy _ _ => cops_any x y w hx.ok hy.ok (rg_of hx.may) (rg_of hy.may) _ rfl
  pairs := fun p q w hp hq ip iq _ _ => cpairsT_any p q w (opsR_in hp ip) (opsR_in hq iq) (whys_few ip iq)
  patches := fun p q w hp hq ip iq _ _ => cpatches_any p q w (opsR_in hp ip) (opsR_in hq iq) _ rfl
theorem aw_c : AwC := clashaw_any clash_c
end Go.Proofs.YtideldgblafhlaaDoor
namespace Go.Proofs.YtideldgblafhlaaDoor
open Go.ChangeShapes Go.WideShapes Go.RowKit
set_option linter.unusedVariables false

theorem open_strs {H : Type} {enc : TypeId × Value → H} {W : World} {fuel : Nat} {v : Value} {y : DataW H × List MemPlace} (hf : DataW.trod enc Tryd.prog W 0 (fun _ => true) true fuel 25 [v] = some y) :
    ∃ (A : Option Addr) (ss : List ByteArray) (cap : Nat), v = .slice A ss.length cap ∧ Strs W W.heap.size A ss ∧ ss.length ≤ 9223372036854775807 ∧ Room A ss.length cap := by
  have hlt := DataW.trod_lt fuel _ _ _ hf
  rcases open_strings Tryd.underlying25 Tryd.underlying9 (by kernel_rfl) hf with ⟨hcs, hx⟩ | ⟨x, l, c, zs, hcs, _, hl, hm, hz, hx, hcell, hwz⟩
  · simp at hcs
    subst hcs
    exact ⟨none, [], 0, rfl, Strs.none_, by simp, fun _ => rfl, Nat.le_refl _⟩
  · simp at hcs
    subst hcs
    simp only [if_true] at hz
    subst hx
    unfold maxLen at hm
    have hl2 : (zs.take l).length = l := by rw [List.length_take]; omega
    refine ⟨some x, zs.take l, c, by rw [hl2], fun hpos => ?_, by omega, (fun e => by cases e), by omega⟩
    rw [hl2] at hpos
    obtain ⟨b, off, spot⟩ := x
    have hspot : spot = none := by simpa [Addr.add] using World.cell?_spot (hcell 0 (by omega))
    subst hspot
    refine ⟨b, off, rfl, ?_, fun j hj => ?_⟩
    · have := hlt (.cell b off) (MemPlace.mem_row.2 ⟨0, by omega, by simp⟩)
      exact this
    · have hj2 : j < l := by omega
      have hc := hcell j (by omega)
      have e : (⟨b, off, none⟩ : Addr).add j = ⟨b, off + j, none⟩ := by unfold Addr.add; split <;> simp_all
      rw [e] at hc
      rw [hc, List.getElem_take]
      simp [List.getD_eq_getElem?_getD, List.getElem?_eq_getElem (show j < zs.length by omega)]
end Go.Proofs.YtideldgblafhlaaDoor
namespace Go.Proofs.YtideldgblafhlaaDoor
open Go.ChangeShapes Go.WideShapes Go.RowKit
set_option linter.unusedVariables false

theorem listof_id {α : Type} {P : Nat → α → Prop} : ∀ (n : Nat), (∀ i, i < n → ∃ x, P i x) → ∃ l : List α, l.length = n ∧ ∀ j (hj : j < l.length), P j l[j]
  | 0, _ => ⟨[], rfl, fun j hj => absurd hj (by simp)⟩
  | n + 1, h => by
    obtain ⟨l, hl, hp⟩ := listof_id n fun i hi => h i (by omega)
    obtain ⟨x, hx⟩ := h n (by omega)
    refine ⟨l ++ [x], by simp [hl], fun j hj => ?_⟩
    by_cases hjl : j < l.length
    · rw [List.getElem_append_left hjl]
      exact hp j hjl
    · have e : j = l.length := by simp at hj; omega
      subst e
      rw [List.getElem_append_right (Nat.le_refl _)]
      simp only [Nat.sub_self, List.getElem_cons_zero]
      rw [hl]
      exact hx
set_option maxRecDepth 10000 in
theorem open_id {H : Type} {enc : TypeId × Value → H} {W : World} {fuel : Nat} {cs : List Value} {y : DataW H × List MemPlace} (hf : DataW.trod enc Tryd.prog W 0 (fun _ => true) true fuel 23 cs = some y) (hl : cs.length = 2) :
    ∃ h : Im, cs = [.string h.p, .int .i64 h.n] ∧ h.Ok := by
  obtain ⟨xs, n, _, _, _, hlen, hg⟩ := DataW.trod_struct Tryd.underlying23 hf
  match cs, hl with
  | [c0, c1], _ =>
    match xs, hlen with
    | [y0, y1], _ =>
      have g0 : DataW.trod enc Tryd.prog W 0 (fun _ => true) true n 9 [c0] = some y0 := hg 0 _ rfl
      have g1 : DataW.trod enc Tryd.prog W 0 (fun _ => true) true n 3 [c1] = some y1 := hg 1 _ rfl
      obtain ⟨s, hc0, _, w0⟩ := DataW.trod_string Tryd.underlying9 g0
      obtain rfl : c0 = .string s := by simpa using hc0
      have hw0 : s.size ≤ 9223372036854775807 := by unfold maxLen at w0; omega
      obtain ⟨k, hc, _, wk⟩ := DataW.trod_int Tryd.underlying3 g1
      obtain rfl : c1 = .int .i64 k := by simpa using hc
      have hw : -9223372036854775808 ≤ k ∧ k ≤ 9223372036854775807 := by simpa [Lit.wf, IntKind.min, IntKind.max, IntKind.signed, IntKind.bits] using wk
      exact ⟨⟨s, k⟩, rfl, hw0, hw⟩
theorem open_ids {H : Type} {enc : TypeId × Value → H} {W : World} {fuel : Nat} {v : Value} {y : DataW H × List MemPlace} (hf : DataW.trod enc Tryd.prog W 0 (fun _ => true) true fuel 24 [v] = some y) :
    ∃ (A : Option Addr) (hs : List Im) (cap : Nat), v = .slice A hs.length cap ∧ Ids W W.heap.size A hs ∧ hs.length ≤ 9223372036854775807 ∧ Room A hs.length cap := by
  have hlt := DataW.trod_lt fuel _ _ _ hf
  have hC : Tryd.prog.cellsOf 23 = 2 := by kernel_rfl
  rcases Go.Deep.open_slice Tryd.underlying24 hf with ⟨hcs, _⟩ | ⟨a, len, cap, m, n, D, Pl, hcs, _, hl, hm, hmm, hx, hi⟩
  · obtain rfl : v = .slice none 0 0 := by simpa using hcs
    exact ⟨none, [], 0, rfl, Rk.Row.nil, by simp, fun _ => rfl, Nat.le_refl _⟩
  · obtain rfl : v = .slice (some a) len cap := by simpa using hcs
    simp only [if_true] at hmm
    unfold maxLen at hm
    obtain ⟨b, off, spot⟩ := a
    have each : ∀ i, i < len → ∃ h : Im, (∀ j (u : Value), (idR.enc h)[j]? = some u → W.cell? ((⟨b, off, spot⟩ : Addr).add (i * 2 + j)) = some u) ∧ h.Ok := by
      intro i hil
      obtain ⟨cs', hc, ht'⟩ := hi i (by omega)
      rw [hC] at hc
      obtain ⟨_, hcl, hat⟩ := World.cells?_some hc
      obtain ⟨h, rfl, hok⟩ := open_id ht' hcl
      refine ⟨h, fun j u hj => ?_, hok⟩
      rw [← Go.Deep.add_add]
      have hj2 : j < 2 := (List.getElem?_eq_some_iff.1 hj).1
      rw [hat j hj2]
      exact hj
    obtain ⟨hs, hlen, hp⟩ := listof_id len each
    subst hlen
    refine ⟨some ⟨b, off, spot⟩, hs, cap, rfl, fun hpos => ?_, by omega, (fun e => by cases e), hl⟩
    have h0 := (hp 0 hpos).1 0 _ rfl
    have hspot : spot = none := by simpa [Addr.add] using World.cell?_spot h0
    subst hspot
    have e : ∀ i, (⟨b, off, none⟩ : Addr).add i = ⟨b, off + i, none⟩ := fun i => by unfold Addr.add; split <;> simp_all
    refine ⟨b, off, rfl, ?_, fun i u hu => ?_⟩
    · have h1 := (hp 0 hpos).1 0 _ rfl
      rw [e] at h1
      exact rec_cell_lt h1
    · have hi2 := (List.getElem?_eq_some_iff.1 hu).1
      rw [idR.cells_len] at hi2
      obtain ⟨j, r, hj, hr, rfl⟩ := idR.at_place hs hi2
      rw [idR.cells_get hs j hj r hr] at hu
      have h1 := (hp j hj).1 r u hu
      rw [e] at h1
      exact h1
end Go.Proofs.YtideldgblafhlaaDoor
namespace Go.Proofs.YtideldgblafhlaaDoor
open Go.ChangeShapes Go.WideShapes Go.RowKit
set_option linter.unusedVariables false

theorem weigh_field {H : Type} {P : Program} {t : TypeId} {fs : Array Field} {xs : List (DataW H × List MemPlace)} (ht : P.underlying t = some (.struct fs)) (j : Nat) {f : Field} {y : DataW H × List MemPlace} (hf : fs[j]? = some f) (hy : xs[j]? = some y)
    (h : ((DataW.agg (xs.map (·.1))).weights P t).all (· ≤ reachBytes) = true) : (y.1.weights P f.type).all (· ≤ reachBytes) = true := by
  refine List.all_eq_true.2 fun n hn => List.all_eq_true.1 h n ?_
  simp only [DataW.weights, ht]
  exact DataW.weights_mem_each (j := j) (by simp [hf]) (by simp [hy]) n hn
theorem open_strw {H : Type} {enc : TypeId × Value → H} {W : World} {fuel : Nat} {c : Value} {y : DataW H × List MemPlace} (hf : DataW.trod enc Tryd.prog W 0 (fun _ => true) true fuel 9 [c] = some y) :
    ∃ s : ByteArray, c = .string s ∧ s.size ≤ 9223372036854775807 ∧ ((y.1.weights Tryd.prog 9).all (· ≤ reachBytes) = true → s.size ≤ 140737488351232) := by
  obtain ⟨s, hc, hx, w⟩ := DataW.trod_string Tryd.underlying9 hf
  refine ⟨s, by simpa using hc, by unfold maxLen at w; omega, fun h => ?_⟩
  rw [hx] at h
  have h2 := List.all_eq_true.1 h s.data.toList.length (by simp [DataW.weights])
  have h3 : s.data.toList.length ≤ 140737488351232 := of_decide_eq_true h2
  rwa [show s.data.toList.length = s.size by simp] at h3
theorem open_intw {H : Type} {enc : TypeId × Value → H} {W : World} {fuel : Nat} {c : Value} {y : DataW H × List MemPlace} (hf : DataW.trod enc Tryd.prog W 0 (fun _ => true) true fuel 3 [c] = some y) :
    ∃ k : Int, c = .int .i64 k := by
  obtain ⟨k, hc, -, -⟩ := DataW.trod_int Tryd.underlying3 hf
  exact ⟨k, by simpa using hc⟩
set_option maxRecDepth 10000 in
theorem open_idw {H : Type} {enc : TypeId × Value → H} {W : World} {fuel : Nat} {c0 c1 : Value} {y : DataW H × List MemPlace} (hf : DataW.trod enc Tryd.prog W 0 (fun _ => true) true fuel 23 [c0, c1] = some y) :
    ∃ h : Im, c0 = .string h.p ∧ c1 = .int .i64 h.n ∧ ((y.1.weights Tryd.prog 23).all (· ≤ reachBytes) = true → h.p.size ≤ 140737488351232) := by
  obtain ⟨xs, n, _, hx, _, hlen, hg⟩ := DataW.trod_struct Tryd.underlying23 hf
  match xs, hlen with
  | [y0, y1], _ =>
    have g0 : DataW.trod enc Tryd.prog W 0 (fun _ => true) true n 9 [c0] = some y0 := hg 0 _ rfl
    have g1 : DataW.trod enc Tryd.prog W 0 (fun _ => true) true n 3 [c1] = some y1 := hg 1 _ rfl
    obtain ⟨s, rfl, -, hs⟩ := open_strw g0
    obtain ⟨k, rfl⟩ := open_intw g1
    refine ⟨⟨s, k⟩, rfl, rfl, fun h => hs ?_⟩
    rw [hx] at h
    exact weigh_field Tryd.underlying23 0 rfl rfl h
set_option maxRecDepth 10000 in
theorem open_op {H : Type} {enc : TypeId × Value → H} {W : World} {fuel : Nat} {cs : List Value} {y : DataW H × List MemPlace} (hf : DataW.trod enc Tryd.prog W 0 (fun _ => true) true fuel 27 cs = some y) (hl : cs.length = 16) :
    ∃ h : Om, cs = h.cells ∧ h.Ok W W.heap.size ∧ ((y.1.weights Tryd.prog 27).all (· ≤ reachBytes) = true → h.In) := by
  obtain ⟨xs, n, _, hx, _, hlen, hg⟩ := DataW.trod_struct Tryd.underlying27 hf
  match cs, hl with
  | [c0, c1, c2, c3, c4, c5, c6, c7, c8, c9, c10, c11, c12, c13, c14, c15], _ =>
    match xs, hlen with
    | [y0, y1, y2, y3, y4, y5, y6, y7, y8, y9, y10], _ =>
      have g0 : DataW.trod enc Tryd.prog W 0 (fun _ => true) true n 3 [c0] = some y0 := hg 0 _ rfl
      have g1 : DataW.trod enc Tryd.prog W 0 (fun _ => true) true n 23 [c1, c2] = some y1 := hg 1 _ rfl
      have g2 : DataW.trod enc Tryd.prog W 0 (fun _ => true) true n 23 [c3, c4] = some y2 := hg 2 _ rfl
      have g3 : DataW.trod enc Tryd.prog W 0 (fun _ => true) true n 23 [c5, c6] = some y3 := hg 3 _ rfl
      have g4 : DataW.trod enc Tryd.prog W 0 (fun _ => true) true n 9 [c7] = some y4 := hg 4 _ rfl
      have g5 : DataW.trod enc Tryd.prog W 0 (fun _ => true) true n 9 [c8] = some y5 := hg 5 _ rfl
      have g6 : DataW.trod enc Tryd.prog W 0 (fun _ => true) true n 23 [c9, c10] = some y6 := hg 6 _ rfl
      have g7 : DataW.trod enc Tryd.prog W 0 (fun _ => true) true n 23 [c11, c12] = some y7 := hg 7 _ rfl
      have g8 : DataW.trod enc Tryd.prog W 0 (fun _ => true) true n 24 [c13] = some y8 := hg 8 _ rfl
      have g9 : DataW.trod enc Tryd.prog W 0 (fun _ => true) true n 3 [c14] = some y9 := hg 9 _ rfl
      have g10 : DataW.trod enc Tryd.prog W 0 (fun _ => true) true n 25 [c15] = some y10 := hg 10 _ rfl
      obtain ⟨k, rfl⟩ := open_intw g0
      obtain ⟨i1, rfl, rfl, z1⟩ := open_idw g1
      obtain ⟨i2, rfl, rfl, z2⟩ := open_idw g2
      obtain ⟨i3, rfl, rfl, z3⟩ := open_idw g3
      obtain ⟨s4, rfl, -, z4⟩ := open_strw g4
      obtain ⟨s5, rfl, -, z5⟩ := open_strw g5
      obtain ⟨i6, rfl, rfl, z6⟩ := open_idw g6
      obtain ⟨i7, rfl, rfl, z7⟩ := open_idw g7
      obtain ⟨A8, s8, p8, rfl, hs8, hm8, hr8⟩ := open_ids g8
      obtain ⟨m, rfl⟩ := open_intw g9
      obtain ⟨A10, s10, p10, rfl, hs10, hm10, hr10⟩ := open_strs g10
      clear g0 g1 g2 g3 g4 g5 g6 g7 g8 g9 g10 hg
      refine ⟨⟨k, i1, i2, i3, s4, s5, i6, i7, A8, p8, s8, m, A10, p10, lists s10⟩, by simp [Om.cells, lists_len], ?_, fun h => ?_⟩
      · exact ⟨hs8, hr8, by rw [toBs_lists]; exact hs10, by rw [lists_len]; exact hr10⟩
      · rw [hx] at h
        have u := Tryd.underlying27
        exact ⟨z4 (weigh_field u 4 rfl rfl h), z5 (weigh_field u 5 rfl rfl h), z1 (weigh_field u 1 rfl rfl h), z2 (weigh_field u 2 rfl rfl h), z3 (weigh_field u 3 rfl rfl h), z6 (weigh_field u 6 rfl rfl h), z7 (weigh_field u 7 rfl rfl h), hm8, by rw [lists_len]; exact hm10⟩
end Go.Proofs.YtideldgblafhlaaDoor
namespace Go.Proofs.YtideldgblafhlaaDoor
open Go.ChangeShapes Go.WideShapes Go.RowKit
set_option linter.unusedVariables false

/-- A patch that came in: its texts' and rows' lengths. -/
structure Ptm.In (x : Ptm) : Prop where
  name : x.name.size ≤ 140737488351232
  few : x.deps.length ≤ 9223372036854775807
  many : x.ops.length ≤ 9223372036854775807
  ops : ∀ o ∈ x.ops, o.In
end Go.Proofs.YtideldgblafhlaaDoor
namespace Go.Proofs.YtideldgblafhlaaDoor
open Go.ChangeShapes Go.WideShapes Go.RowKit
set_option linter.unusedVariables false

structure Om.Inz (x : Om) : Prop where
  inn : x.In
  mz : x.Mz
structure Ptm.Inz (x : Ptm) : Prop where
  inn : x.In
  mz : ∀ o ∈ x.ops, o.Mz
theorem weigh_slice {H : Type} {P : Program} {t e : TypeId} {elems spare : List (DataW H)} (ht : P.underlying t = some (.slice e)) (h : ((DataW.slice elems spare).weights P t).all (· ≤ reachBytes) = true) : elems.length * P.bytesOf e ≤ 140737488351232 := by
  have h1 := List.all_eq_true.1 h ((elems.length + spare.length) * P.bytesOf e) (by simp [DataW.weights, ht])
  have h2 : (elems.length + spare.length) * P.bytesOf e ≤ 140737488351232 := of_decide_eq_true h1
  exact Nat.le_trans (Nat.mul_le_mul_right _ (Nat.le_add_right _ _)) h2
theorem open_idsz {H : Type} {enc : TypeId × Value → H} {W : World} {fuel : Nat} {A : Option Addr} {hs : List Im} {cap : Nat} {y : DataW H × List MemPlace} (hf : DataW.trod enc Tryd.prog W 0 (fun _ => true) true fuel 24 [.slice A hs.length cap] = some y) (hI : Ids W W.heap.size A hs) :
    (∀ h ∈ hs, h.p.size ≤ 9223372036854775807) ∧ ((y.1.weights Tryd.prog 24).all (· ≤ reachBytes) = true → hs.length * 24 ≤ 140737488351232) := by
  have hC : Tryd.prog.cellsOf 23 = 2 := by kernel_rfl
  rcases Go.Deep.open_slice Tryd.underlying24 hf with ⟨hcs, _⟩ | ⟨a, len, cap', m, n, D, Pl, hcs, _, hl, hm, hmm, hx, hi⟩
  · have e : hs.length = 0 := by simp at hcs; simp [hcs]
    have e2 : hs = [] := List.length_eq_zero_iff.1 e
    subst e2
    exact ⟨fun h hh => (by cases hh), fun _ => by simp⟩
  · have e : A = some a ∧ hs.length = len ∧ cap = cap' := by simpa using hcs
    obtain ⟨rfl, rfl, rfl⟩ := e
    simp only [if_true] at hmm
    refine ⟨fun h hh => ?_, fun hw => ?_⟩
    · obtain ⟨j, hj, rfl⟩ := List.getElem_of_mem hh
      obtain ⟨b, off, eA, _, c0, c1⟩ := ids_get hI hj
      cases eA
      obtain ⟨cs', hc, ht'⟩ := hi j (by omega)
      rw [hC] at hc
      obtain ⟨_, hcl, hat⟩ := World.cells?_some hc
      obtain ⟨h, rfl, hok⟩ := open_id ht' hcl
      have h0 := hat 0 (by omega)
      have e3 : ((⟨b, off, none⟩ : Addr).add (j * 2)).add 0 = ⟨b, off + j * 2, none⟩ := by rw [rec_add, rec_add]; rfl
      rw [e3, c0] at h0
      have e4 : Value.string hs[j].p = .string h.p := by simpa using h0
      injection e4 with e5
      rw [e5]
      exact hok.1
    · rw [hx] at hw
      have h1 := weigh_slice Tryd.underlying24 hw
      rw [List.length_map, List.length_range, show Tryd.prog.bytesOf 23 = 24 by kernel_rfl] at h1
      exact h1
theorem open_strsz {H : Type} {enc : TypeId × Value → H} {W : World} {fuel : Nat} {A : Option Addr} {ss : List ByteArray} {cap : Nat} {y : DataW H × List MemPlace} (hf : DataW.trod enc Tryd.prog W 0 (fun _ => true) true fuel 25 [.slice A ss.length cap] = some y) (hI : Strs W W.heap.size A ss) :
    (∀ s ∈ ss, s.size ≤ 9223372036854775807) ∧ ((y.1.weights Tryd.prog 25).all (· ≤ reachBytes) = true → ss.length * 16 ≤ 140737488351232) := by
  rcases open_strings Tryd.underlying25 Tryd.underlying9 (by kernel_rfl) hf with ⟨hcs, hx⟩ | ⟨x, l, c, zs, hcs, _, hl, hm, hz, hx, hcell, hwz⟩
  · have e : ss.length = 0 := by simp at hcs; simp [hcs]
    have e2 : ss = [] := List.length_eq_zero_iff.1 e
    subst e2
    exact ⟨fun h hh => (by cases hh), fun _ => by simp⟩
  · have e : A = some x ∧ ss.length = l ∧ cap = c := by simpa using hcs
    obtain ⟨rfl, rfl, rfl⟩ := e
    simp only [if_true] at hz
    refine ⟨fun s hs => ?_, fun hw => ?_⟩
    · obtain ⟨j, hj, rfl⟩ := List.getElem_of_mem hs
      obtain ⟨b, off, eA, _, hc⟩ := hI.at_ hj
      cases eA
      have h0 := hcell j (by omega)
      have e3 : (⟨b, off, none⟩ : Addr).add j = ⟨b, off + j, none⟩ := rec_add b off j
      rw [e3, hc] at h0
      have e4 : Value.string ss[j] = .string (zs.getD j ByteArray.empty) := by simpa using h0
      injection e4 with e5
      rw [e5]
      have hjz : j < zs.length := by omega
      have e6 : zs.getD j ByteArray.empty = zs[j] := by simp [List.getD_eq_getElem?_getD, List.getElem?_eq_getElem hjz]
      rw [e6]
      have h7 := hwz _ (List.getElem_mem hjz)
      unfold maxLen at h7
      omega
    · rw [hx] at hw
      have h1 := weigh_slice Tryd.underlying25 hw
      have h2 : (strs (zs.take ss.length) : List (DataW H)).length = ss.length := by simp [strs]; omega
      rw [h2, show Tryd.prog.bytesOf 9 = 16 by kernel_rfl] at h1
      exact h1
set_option maxRecDepth 10000 in
theorem open_opz {H : Type} {enc : TypeId × Value → H} {W : World} {fuel : Nat} {cs : List Value} {y : DataW H × List MemPlace} (hf : DataW.trod enc Tryd.prog W 0 (fun _ => true) true fuel 27 cs = some y) (hl : cs.length = 16) :
    ∃ h : Om, cs = h.cells ∧ h.Ok W W.heap.size ∧ ((y.1.weights Tryd.prog 27).all (· ≤ reachBytes) = true → h.Inz) := by
  obtain ⟨h, rfl, hok, hin⟩ := open_op hf hl
  refine ⟨h, rfl, hok, fun hw => ⟨hin hw, ?_⟩⟩
  have hi := hin hw
  obtain ⟨xs, n, _, hx, _, hlen, hg⟩ := DataW.trod_struct Tryd.underlying27 hf
  match xs, hlen with
  | [y0, y1, y2, y3, y4, y5, y6, y7, y8, y9, y10], _ =>
    have g8 : DataW.trod enc Tryd.prog W 0 (fun _ => true) true n 24 [.slice h.a1 h.dels.length h.c1] = some y8 := hg 8 _ rfl
    have g10 : DataW.trod enc Tryd.prog W 0 (fun _ => true) true n 25 [.slice h.a2 h.lines.length h.c2] = some y10 := hg 10 _ rfl
    rw [← toBs_len h.lines] at g10
    have z8 := open_idsz g8 hok.dels
    have z10 := open_strsz g10 hok.lines
    rw [hx] at hw
    have u := Tryd.underlying27
    have w8 := z8.2 (weigh_field u 8 rfl rfl hw)
    have w10 := z10.2 (weigh_field u 10 rfl rfl hw)
    rw [toBs_len] at w10
    exact ⟨by have := hi.self; omega, by have := hi.parent; omega, by have := hi.dst; omega, by have := hi.left; omega, by have := hi.right; omega, by have := hi.name; omega, by have := hi.dname; omega, w8, z8.1, w10, fun l hl => by
      have h1 := z10.1 (toB l) (List.mem_map.2 ⟨l, hl, rfl⟩)
      rwa [toB_size] at h1⟩
end Go.Proofs.YtideldgblafhlaaDoor
namespace Go.Proofs.YtideldgblafhlaaDoor
open Go.RowKit Go.ChangeShapes
set_option linter.unusedVariables false

/-- The laid variables of this layer's rows. -/
def laidOps : List (String × DataW Unit) := [("math/bits.deBruijn32tab", Rows.laid_math_bits_deBruijn32tab), ("math/bits.deBruijn64tab", Rows.laid_math_bits_deBruijn64tab), ("internal/strconv.uint64pow10", Rows.laid_internal_strconv_uint64pow10), ("unicode/utf8.acceptRanges", Rows.laid_unicode_utf8_acceptRanges), ("unicode/utf8.first", Rows.laid_unicode_utf8_first)]
theorem ops_extra : Proofs.U8Extra Tryd.prog Tryd.lays260_ren := ⟨by kernel_rfl, by kernel_rfl, by kernel_rfl, by kernel_rfl, by kernel_rfl, by kernel_rfl, by kernel_rfl⟩
theorem ops_accept : (Rows.laid_unicode_utf8_acceptRanges : DataW Unit) = Lib.acceptData := by kernel_rfl
theorem ops_of {W : World} (h : laidMetH Tryd.prog laidOps W) : Nums W ∧ Tabs W := by
  rw [MakeChecks.laidMetH_plain _ _ _ (by kernel_rfl)] at h
  unfold laidOps at h
  have hf := Lib.laidMet.reads h (.tail _ (.tail _ (.tail _ (.tail _ (.head _)))))
  have ha := Lib.laidMet.reads h (.tail _ (.tail _ (.tail _ (.head _))))
  have h2 := h.tail.tail
  rw [show (Rows.laid_internal_strconv_uint64pow10 : DataW Unit) = Lib.tabData .u64 Lib.pow10Tab by kernel_rfl] at h2
  exact ⟨⟨Lib.tabIs_of_head (g := 0) (by kernel_rfl) (by kernel_rfl) Tryd.underlying99 Tryd.underlying86 (by kernel_rfl) (by kernel_rfl) h2⟩,
    Proofs.utf8Tabs_of_reads Tryd.lays260 ops_extra (Pinned.utf8First_eq ▸ hf) (ops_accept ▸ ha)⟩
end Go.Proofs.YtideldgblafhlaaDoor
