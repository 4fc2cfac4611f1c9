
/- What a slice of calls of a tree that comes in holds. -/
import Derived.Test.YtcjiipmageddhaaDoorOpen
import Derived.Test.YtcjiipmageddhaaDoorCalls
import Derived.ChangeArms
import Derived.Deep.Slices
import Derived.Deep.Fields
import Derived.ChangeSame
namespace Go.Proofs.YtcjiipmageddhaaDoor
open Go.ChangeShapes Go.WideShapes Go.RowKit
set_option linter.unusedVariables false

theorem list_of_calls {α : Type} {P : Nat → α → Prop} : ∀ (n : Nat), (∀ i, i < n → ∃ x, P i x) → ∃ l : List α, l.length = n ∧ ∀ j (hj : j < l.length), P j l[j]
  | 0, _ => ⟨[], rfl, fun j hj => absurd hj (by simp)⟩
  | n + 1, h => by
    obtain ⟨l, hl, hp⟩ := list_of_calls n fun i hi => h i (by omega)
    obtain ⟨x, hx⟩ := h n (by omega)
    refine ⟨l ++ [x], by simp [hl], fun j hj => ?_⟩
    by_cases hjl : j < l.length
    · rw [List.getElem_append_left hjl]
      exact hp j hjl
    · have e : j = l.length := by simp at hj; omega
      subst e
      rw [List.getElem_append_right (Nat.le_refl _)]
      simp only [Nat.sub_self, List.getElem_cons_zero]
      rw [hl]
      exact hx
set_option maxRecDepth 10000 in
theorem open_call {H : Type} {enc : TypeId × Value → H} {W : World} {fuel : Nat} {cs : List Value} {y : DataW H × List MemPlace} (hf : DataW.trod enc Tryd.prog W 0 (fun _ => true) true fuel 29 cs = some y) (hl : cs.length = 4) :
    ∃ h : Cm, cs = h.cells ∧ h.Ok W W.heap.size := by
  obtain ⟨xs, n, _, _, _, hlen, hg⟩ := DataW.trod_struct Tryd.underlying29 hf
  match cs, hl with
  | [c0, c1, c2, c3], _ =>
    match xs, hlen with
    | [y0, y1, y2, y3], _ =>
      have g0 : DataW.trod enc Tryd.prog W 0 (fun _ => true) true n 3 [c0] = some y0 := hg 0 _ rfl
      have g1 : DataW.trod enc Tryd.prog W 0 (fun _ => true) true n 9 [c1] = some y1 := hg 1 _ rfl
      have g2 : DataW.trod enc Tryd.prog W 0 (fun _ => true) true n 9 [c2] = some y2 := hg 2 _ rfl
      have g3 : DataW.trod enc Tryd.prog W 0 (fun _ => true) true n 27 [c3] = some y3 := hg 3 _ rfl
      obtain ⟨k, hc, _, wk⟩ := DataW.trod_int Tryd.underlying3 g0
      obtain rfl : c0 = .int .i64 k := by simpa using hc
      have hw : -9223372036854775808 ≤ k ∧ k ≤ 9223372036854775807 := by simpa [Lit.wf, IntKind.min, IntKind.max, IntKind.signed, IntKind.bits] using wk
      obtain ⟨s1, hc1, _, z1⟩ := DataW.trod_string Tryd.underlying9 g1
      obtain rfl : c1 = .string s1 := by simpa using hc1
      obtain ⟨s2, hc2, _, z2⟩ := DataW.trod_string Tryd.underlying9 g2
      obtain rfl : c2 = .string s2 := by simpa using hc2
      obtain ⟨A3, s3, p3, rfl, hs3, hm3, hr3⟩ := open_strs g3
      clear g0 g1 g2 g3 wk hc hc1 hc2
      refine ⟨⟨k, s1, s2, A3, p3, lists s3⟩, by simp [Cm.cells, lists_len], ?_⟩
      exact ⟨by rw [toBs_lists]; exact hs3, by rw [lists_len]; exact hr3, by rw [lists_len]; exact hm3, Nat.le_trans z1 (by decide), Nat.le_trans z2 (by decide), hw.1, hw.2⟩

theorem open_calls {H : Type} {enc : TypeId × Value → H} {W : World} {fuel : Nat} {v : Value} {y : DataW H × List MemPlace} (hf : DataW.trod enc Tryd.prog W 0 (fun _ => true) true fuel 22 [v] = some y) :
    ∃ (A : Option Addr) (hs : List Cm) (cap : Nat), v = .slice A hs.length cap ∧ Cs W W.heap.size A hs ∧ hs.length ≤ 9223372036854775807 ∧ Room A hs.length cap := by
  have hlt := DataW.trod_lt fuel _ _ _ hf
  have hC : Tryd.prog.cellsOf 29 = 4 := by kernel_rfl
  rcases Go.Deep.open_slice Tryd.underlying22 hf with ⟨hcs, _⟩ | ⟨a, len, cap, m, n, D, Pl, hcs, _, hl, hm, hmm, hx, hi⟩
  · obtain rfl : v = .slice none 0 0 := by simpa using hcs
    exact ⟨none, [], 0, rfl, Cs.nil, by simp, fun _ => rfl, Nat.le_refl _⟩
  · obtain rfl : v = .slice (some a) len cap := by simpa using hcs
    simp only [if_true] at hmm
    unfold maxLen at hm
    obtain ⟨b, off, spot⟩ := a
    have each : ∀ i, i < len → ∃ h : Cm, (∀ j (u : Value), h.cells[j]? = some u → W.cell? ((⟨b, off, spot⟩ : Addr).add (i * 4 + j)) = some u) ∧ h.Ok W W.heap.size := by
      intro i hil
      obtain ⟨cs', hc, ht'⟩ := hi i (by omega)
      rw [hC] at hc
      obtain ⟨_, hcl, hat⟩ := World.cells?_some hc
      obtain ⟨h, rfl, hok⟩ := open_call ht' hcl
      refine ⟨h, fun j u hj => ?_, hok⟩
      rw [← Go.Deep.add_add]
      have hj3 : j < 4 := by
        have := (List.getElem?_eq_some_iff.1 hj).1
        exact this
      rw [hat j hj3, hj]
    obtain ⟨hs, hlen, hp⟩ := list_of_calls len each
    subst hlen
    refine ⟨some ⟨b, off, spot⟩, hs, cap, rfl, ⟨fun hpos => ?_, fun h hh => ?_⟩, by omega, (fun e => by cases e), hl⟩
    · have h0 := (hp 0 hpos).1 0 _ rfl
      have hspot : spot = none := by simpa [Addr.add] using World.cell?_spot h0
      subst hspot
      have e : ∀ i, (⟨b, off, none⟩ : Addr).add i = ⟨b, off + i, none⟩ := fun i => by unfold Addr.add; split <;> simp_all
      refine ⟨b, off, rfl, ?_, fun j hj => ?_⟩
      · have h1 := (hp 0 hpos).1 0 _ rfl
        rw [e] at h1
        unfold World.cell? at h1
        rcases Nat.lt_or_ge b W.heap.size with h2 | h2
        · exact h2
        · rw [Array.getElem?_eq_none h2] at h1; simp at h1
      · have k0 := (hp j hj).1 0 _ rfl
        have k1 := (hp j hj).1 1 _ rfl
        have k2 := (hp j hj).1 2 _ rfl
        have k3 := (hp j hj).1 3 _ rfl
        rw [e] at k0 k1 k2 k3
        exact ⟨k0, k1, k2, k3⟩
    · obtain ⟨j, hj, rfl⟩ := List.getElem_of_mem hh
      exact (hp j hj).2
end Go.Proofs.YtcjiipmageddhaaDoor
