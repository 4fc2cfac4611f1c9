/- What a slice of strings that comes in holds. What ids that come in hold. What an operation that comes in holds. -/
import Derived.ChangeOld
import Derived.SliceStrings
import Derived.WideShapes
import Derived.Deep.Slices
import Derived.Deep.Fields
import Derived.ChangeSame
import Derived.ChangeArms
import Derived.SizedLaws
import Derived.Test.YtioknegeebgdbaaGreatDoorCk32
namespace Go.Proofs.YtioknegeebgdbaaGreatDoor
open Go.ChangeShapes Go.WideShapes Go.RowKit
set_option linter.unusedVariables false

theorem open_strs {H : Type} {enc : TypeId × Value → H} {W : World} {fuel : Nat} {v : Value} {y : DataW H × List MemPlace} (hf : DataW.trod enc Tryz.prog W 0 (fun _ => true) true fuel 25 [v] = some y) :
    ∃ (A : Option Addr) (ss : List ByteArray) (cap : Nat), v = .slice A ss.length cap ∧ Strs W W.heap.size A ss ∧ ss.length ≤ 9223372036854775807 ∧ Room A ss.length cap := by
  have hlt := DataW.trod_lt fuel _ _ _ hf
  rcases open_strings Tryz.underlying25 Tryz.underlying9 (by kernel_rfl) hf with ⟨hcs, hx⟩ | ⟨x, l, c, zs, hcs, _, hl, hm, hz, hx, hcell, hwz⟩
  · simp at hcs
    subst hcs
    exact ⟨none, [], 0, rfl, Strs.none_, by simp, fun _ => rfl, Nat.le_refl _⟩
  · simp at hcs
    subst hcs
    simp only [if_true] at hz
    subst hx
    unfold maxLen at hm
    have hl2 : (zs.take l).length = l := by rw [List.length_take]; omega
    refine ⟨some x, zs.take l, c, by rw [hl2], fun hpos => ?_, by omega, (fun e => by cases e), by omega⟩
    rw [hl2] at hpos
    obtain ⟨b, off, spot⟩ := x
    have hspot : spot = none := by simpa [Addr.add] using World.cell?_spot (hcell 0 (by omega))
    subst hspot
    refine ⟨b, off, rfl, ?_, fun j hj => ?_⟩
    · have := hlt (.cell b off) (MemPlace.mem_row.2 ⟨0, by omega, by simp⟩)
      exact this
    · have hj2 : j < l := by omega
      have hc := hcell j (by omega)
      have e : (⟨b, off, none⟩ : Addr).add j = ⟨b, off + j, none⟩ := by unfold Addr.add; split <;> simp_all
      rw [e] at hc
      rw [hc, List.getElem_take]
      simp [List.getD_eq_getElem?_getD, List.getElem?_eq_getElem (show j < zs.length by omega)]
end Go.Proofs.YtioknegeebgdbaaGreatDoor
namespace Go.Proofs.YtioknegeebgdbaaGreatDoor
open Go.ChangeShapes Go.WideShapes Go.RowKit
set_option linter.unusedVariables false

theorem listof_id {α : Type} {P : Nat → α → Prop} : ∀ (n : Nat), (∀ i, i < n → ∃ x, P i x) → ∃ l : List α, l.length = n ∧ ∀ j (hj : j < l.length), P j l[j]
  | 0, _ => ⟨[], rfl, fun j hj => absurd hj (by simp)⟩
  | n + 1, h => by
    obtain ⟨l, hl, hp⟩ := listof_id n fun i hi => h i (by omega)
    obtain ⟨x, hx⟩ := h n (by omega)
    refine ⟨l ++ [x], by simp [hl], fun j hj => ?_⟩
    by_cases hjl : j < l.length
    · rw [List.getElem_append_left hjl]
      exact hp j hjl
    · have e : j = l.length := by simp at hj; omega
      subst e
      rw [List.getElem_append_right (Nat.le_refl _)]
      simp only [Nat.sub_self, List.getElem_cons_zero]
      rw [hl]
      exact hx
set_option maxRecDepth 10000 in
theorem open_id {H : Type} {enc : TypeId × Value → H} {W : World} {fuel : Nat} {cs : List Value} {y : DataW H × List MemPlace} (hf : DataW.trod enc Tryz.prog W 0 (fun _ => true) true fuel 23 cs = some y) (hl : cs.length = 2) :
    ∃ h : Im, cs = [.string h.p, .int .i64 h.n] ∧ h.Ok := by
  obtain ⟨xs, n, _, _, _, hlen, hg⟩ := DataW.trod_struct Tryz.underlying23 hf
  match cs, hl with
  | [c0, c1], _ =>
    match xs, hlen with
    | [y0, y1], _ =>
      have g0 : DataW.trod enc Tryz.prog W 0 (fun _ => true) true n 9 [c0] = some y0 := hg 0 _ rfl
      have g1 : DataW.trod enc Tryz.prog W 0 (fun _ => true) true n 3 [c1] = some y1 := hg 1 _ rfl
      obtain ⟨s, hc0, _, w0⟩ := DataW.trod_string Tryz.underlying9 g0
      obtain rfl : c0 = .string s := by simpa using hc0
      have hw0 : s.size ≤ 9223372036854775807 := by unfold maxLen at w0; omega
      obtain ⟨k, hc, _, wk⟩ := DataW.trod_int Tryz.underlying3 g1
      obtain rfl : c1 = .int .i64 k := by simpa using hc
      have hw : -9223372036854775808 ≤ k ∧ k ≤ 9223372036854775807 := by simpa [Lit.wf, IntKind.min, IntKind.max, IntKind.signed, IntKind.bits] using wk
      exact ⟨⟨s, k⟩, rfl, hw0, hw⟩
theorem open_ids {H : Type} {enc : TypeId × Value → H} {W : World} {fuel : Nat} {v : Value} {y : DataW H × List MemPlace} (hf : DataW.trod enc Tryz.prog W 0 (fun _ => true) true fuel 24 [v] = some y) :
    ∃ (A : Option Addr) (hs : List Im) (cap : Nat), v = .slice A hs.length cap ∧ Ids W W.heap.size A hs ∧ hs.length ≤ 9223372036854775807 ∧ Room A hs.length cap := by
  have hlt := DataW.trod_lt fuel _ _ _ hf
  have hC : Tryz.prog.cellsOf 23 = 2 := by kernel_rfl
  rcases Go.Deep.open_slice Tryz.underlying24 hf with ⟨hcs, _⟩ | ⟨a, len, cap, m, n, D, Pl, hcs, _, hl, hm, hmm, hx, hi⟩
  · obtain rfl : v = .slice none 0 0 := by simpa using hcs
    exact ⟨none, [], 0, rfl, Rk.Row.nil, by simp, fun _ => rfl, Nat.le_refl _⟩
  · obtain rfl : v = .slice (some a) len cap := by simpa using hcs
    simp only [if_true] at hmm
    unfold maxLen at hm
    obtain ⟨b, off, spot⟩ := a
    have each : ∀ i, i < len → ∃ h : Im, (∀ j (u : Value), (idR.enc h)[j]? = some u → W.cell? ((⟨b, off, spot⟩ : Addr).add (i * 2 + j)) = some u) ∧ h.Ok := by
      intro i hil
      obtain ⟨cs', hc, ht'⟩ := hi i (by omega)
      rw [hC] at hc
      obtain ⟨_, hcl, hat⟩ := World.cells?_some hc
      obtain ⟨h, rfl, hok⟩ := open_id ht' hcl
      refine ⟨h, fun j u hj => ?_, hok⟩
      rw [← Go.Deep.add_add]
      have hj2 : j < 2 := (List.getElem?_eq_some_iff.1 hj).1
      rw [hat j hj2]
      exact hj
    obtain ⟨hs, hlen, hp⟩ := listof_id len each
    subst hlen
    refine ⟨some ⟨b, off, spot⟩, hs, cap, rfl, fun hpos => ?_, by omega, (fun e => by cases e), hl⟩
    have h0 := (hp 0 hpos).1 0 _ rfl
    have hspot : spot = none := by simpa [Addr.add] using World.cell?_spot h0
    subst hspot
    have e : ∀ i, (⟨b, off, none⟩ : Addr).add i = ⟨b, off + i, none⟩ := fun i => by unfold Addr.add; split <;> simp_all
    refine ⟨b, off, rfl, ?_, fun i u hu => ?_⟩
    · have h1 := (hp 0 hpos).1 0 _ rfl
      rw [e] at h1
      exact rec_cell_lt h1
    · have hi2 := (List.getElem?_eq_some_iff.1 hu).1
      rw [idR.cells_len] at hi2
      obtain ⟨j, r, hj, hr, rfl⟩ := idR.at_place hs hi2
      rw [idR.cells_get hs j hj r hr] at hu
      have h1 := (hp j hj).1 r u hu
      rw [e] at h1
      exact h1
end Go.Proofs.YtioknegeebgdbaaGreatDoor
namespace Go.Proofs.YtioknegeebgdbaaGreatDoor
open Go.ChangeShapes Go.WideShapes Go.RowKit
set_option linter.unusedVariables false

theorem weigh_field {H : Type} {P : Program} {t : TypeId} {fs : Array Field} {xs : List (DataW H × List MemPlace)} (ht : P.underlying t = some (.struct fs)) (j : Nat) {f : Field} {y : DataW H × List MemPlace} (hf : fs[j]? = some f) (hy : xs[j]? = some y)
    (h : ((DataW.agg (xs.map (·.1))).weights P t).all (· ≤ reachBytes) = true) : (y.1.weights P f.type).all (· ≤ reachBytes) = true := by
  refine List.all_eq_true.2 fun n hn => List.all_eq_true.1 h n ?_
  simp only [DataW.weights, ht]
  exact DataW.weights_mem_each (j := j) (by simp [hf]) (by simp [hy]) n hn
theorem open_strw {H : Type} {enc : TypeId × Value → H} {W : World} {fuel : Nat} {c : Value} {y : DataW H × List MemPlace} (hf : DataW.trod enc Tryz.prog W 0 (fun _ => true) true fuel 9 [c] = some y) :
    ∃ s : ByteArray, c = .string s ∧ s.size ≤ 9223372036854775807 ∧ ((y.1.weights Tryz.prog 9).all (· ≤ reachBytes) = true → s.size ≤ 140737488351232) := by
  obtain ⟨s, hc, hx, w⟩ := DataW.trod_string Tryz.underlying9 hf
  refine ⟨s, by simpa using hc, by unfold maxLen at w; omega, fun h => ?_⟩
  rw [hx] at h
  have h2 := List.all_eq_true.1 h s.data.toList.length (by simp [DataW.weights])
  have h3 : s.data.toList.length ≤ 140737488351232 := of_decide_eq_true h2
  rwa [show s.data.toList.length = s.size by simp] at h3
theorem open_intw {H : Type} {enc : TypeId × Value → H} {W : World} {fuel : Nat} {c : Value} {y : DataW H × List MemPlace} (hf : DataW.trod enc Tryz.prog W 0 (fun _ => true) true fuel 3 [c] = some y) :
    ∃ k : Int, c = .int .i64 k := by
  obtain ⟨k, hc, -, -⟩ := DataW.trod_int Tryz.underlying3 hf
  exact ⟨k, by simpa using hc⟩
set_option maxRecDepth 10000 in
theorem open_idw {H : Type} {enc : TypeId × Value → H} {W : World} {fuel : Nat} {c0 c1 : Value} {y : DataW H × List MemPlace} (hf : DataW.trod enc Tryz.prog W 0 (fun _ => true) true fuel 23 [c0, c1] = some y) :
    ∃ h : Im, c0 = .string h.p ∧ c1 = .int .i64 h.n ∧ ((y.1.weights Tryz.prog 23).all (· ≤ reachBytes) = true → h.p.size ≤ 140737488351232) := by
  obtain ⟨xs, n, _, hx, _, hlen, hg⟩ := DataW.trod_struct Tryz.underlying23 hf
  match xs, hlen with
  | [y0, y1], _ =>
    have g0 : DataW.trod enc Tryz.prog W 0 (fun _ => true) true n 9 [c0] = some y0 := hg 0 _ rfl
    have g1 : DataW.trod enc Tryz.prog W 0 (fun _ => true) true n 3 [c1] = some y1 := hg 1 _ rfl
    obtain ⟨s, rfl, -, hs⟩ := open_strw g0
    obtain ⟨k, rfl⟩ := open_intw g1
    refine ⟨⟨s, k⟩, rfl, rfl, fun h => hs ?_⟩
    rw [hx] at h
    exact weigh_field Tryz.underlying23 0 rfl rfl h
set_option maxRecDepth 10000 in
theorem open_op {H : Type} {enc : TypeId × Value → H} {W : World} {fuel : Nat} {cs : List Value} {y : DataW H × List MemPlace} (hf : DataW.trod enc Tryz.prog W 0 (fun _ => true) true fuel 27 cs = some y) (hl : cs.length = 16) :
    ∃ h : Om, cs = h.cells ∧ h.Ok W W.heap.size ∧ ((y.1.weights Tryz.prog 27).all (· ≤ reachBytes) = true → h.In) := by
  obtain ⟨xs, n, _, hx, _, hlen, hg⟩ := DataW.trod_struct Tryz.underlying27 hf
  match cs, hl with
  | [c0, c1, c2, c3, c4, c5, c6, c7, c8, c9, c10, c11, c12, c13, c14, c15], _ =>
    match xs, hlen with
    | [y0, y1, y2, y3, y4, y5, y6, y7, y8, y9, y10], _ =>
      have g0 : DataW.trod enc Tryz.prog W 0 (fun _ => true) true n 3 [c0] = some y0 := hg 0 _ rfl
      have g1 : DataW.trod enc Tryz.prog W 0 (fun _ => true) true n 23 [c1, c2] = some y1 := hg 1 _ rfl
      have g2 : DataW.trod enc Tryz.prog W 0 (fun _ => true) true n 23 [c3, c4] = some y2 := hg 2 _ rfl
      have g3 : DataW.trod enc Tryz.prog W 0 (fun _ => true) true n 23 [c5, c6] = some y3 := hg 3 _ rfl
      have g4 : DataW.trod enc Tryz.prog W 0 (fun _ => true) true n 9 [c7] = some y4 := hg 4 _ rfl
      have g5 : DataW.trod enc Tryz.prog W 0 (fun _ => true) true n 9 [c8] = some y5 := hg 5 _ rfl
      have g6 : DataW.trod enc Tryz.prog W 0 (fun _ => true) true n 23 [c9, c10] = some y6 := hg 6 _ rfl
      have g7 : DataW.trod enc Tryz.prog W 0 (fun _ => true) true n 23 [c11, c12] = some y7 := hg 7 _ rfl
      have g8 : DataW.trod enc Tryz.prog W 0 (fun _ => true) true n 24 [c13] = some y8 := hg 8 _ rfl
      have g9 : DataW.trod enc Tryz.prog W 0 (fun _ => true) true n 3 [c14] = some y9 := hg 9 _ rfl
      have g10 : DataW.trod enc Tryz.prog W 0 (fun _ => true) true n 25 [c15] = some y10 := hg 10 _ rfl
      obtain ⟨k, rfl⟩ := open_intw g0
      obtain ⟨i1, rfl, rfl, z1⟩ := open_idw g1
      obtain ⟨i2, rfl, rfl, z2⟩ := open_idw g2
      obtain ⟨i3, rfl, rfl, z3⟩ := open_idw g3
      obtain ⟨s4, rfl, -, z4⟩ := open_strw g4
      obtain ⟨s5, rfl, -, z5⟩ := open_strw g5
      obtain ⟨i6, rfl, rfl, z6⟩ := open_idw g6
      obtain ⟨i7, rfl, rfl, z7⟩ := open_idw g7
      obtain ⟨A8, s8, p8, rfl, hs8, hm8, hr8⟩ := open_ids g8
      obtain ⟨m, rfl⟩ := open_intw g9
      obtain ⟨A10, s10, p10, rfl, hs10, hm10, hr10⟩ := open_strs g10
      clear g0 g1 g2 g3 g4 g5 g6 g7 g8 g9 g10 hg
      refine ⟨⟨k, i1, i2, i3, s4, s5, i6, i7, A8, p8, s8, m, A10, p10, lists s10⟩, by simp [Om.cells, lists_len], ?_, fun h => ?_⟩
      · exact ⟨hs8, hr8, by rw [toBs_lists]; exact hs10, by rw [lists_len]; exact hr10⟩
      · rw [hx] at h
        have u := Tryz.underlying27
        exact ⟨z4 (weigh_field u 4 rfl rfl h), z5 (weigh_field u 5 rfl rfl h), z1 (weigh_field u 1 rfl rfl h), z2 (weigh_field u 2 rfl rfl h), z3 (weigh_field u 3 rfl rfl h), z6 (weigh_field u 6 rfl rfl h), z7 (weigh_field u 7 rfl rfl h), hm8, by rw [lists_len]; exact hm10⟩
end Go.Proofs.YtioknegeebgdbaaGreatDoor
