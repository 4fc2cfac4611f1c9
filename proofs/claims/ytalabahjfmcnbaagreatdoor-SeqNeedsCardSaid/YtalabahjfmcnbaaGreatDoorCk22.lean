/- What a slice of steps that comes in holds. -/
import Derived.BigQuiet
import Derived.Deep.QuietTactic
import Derived.Handy
import Derived.Deep.Slices
import Derived.Deep.Fields
import Derived.ChangeSame
import Derived.ChangeArms
import Derived.Test.YtalabahjfmcnbaaGreatDoorCk21
namespace Go.Proofs.YtalabahjfmcnbaaGreatDoor
open Go.ChangeShapes Go.WideShapes Go.RowKit
set_option linter.unusedVariables false

theorem list_of_steps {α : Type} {P : Nat → α → Prop} : ∀ (n : Nat), (∀ i, i < n → ∃ x, P i x) → ∃ l : List α, l.length = n ∧ ∀ j (hj : j < l.length), P j l[j]
  | 0, _ => ⟨[], rfl, fun j hj => absurd hj (by simp)⟩
  | n + 1, h => by
    obtain ⟨l, hl, hp⟩ := list_of_steps n fun i hi => h i (by omega)
    obtain ⟨x, hx⟩ := h n (by omega)
    refine ⟨l ++ [x], by simp [hl], fun j hj => ?_⟩
    by_cases hjl : j < l.length
    · rw [List.getElem_append_left hjl]
      exact hp j hjl
    · have e : j = l.length := by simp at hj; omega
      subst e
      rw [List.getElem_append_right (Nat.le_refl _)]
      simp only [Nat.sub_self, List.getElem_cons_zero]
      rw [hl]
      exact hx
set_option maxRecDepth 10000 in
theorem open_prim {H : Type} {enc : TypeId × Value → H} {W : World} {fuel : Nat} {cs : List Value} {y : DataW H × List MemPlace} (hf : DataW.trod enc Tryz.prog W 0 (fun _ => true) true fuel 33 cs = some y) (hl : cs.length = 6) :
    ∃ h : Pm, cs = h.cells ∧ h.Ok W W.heap.size := by
  obtain ⟨xs, n, _, _, _, hlen, hg⟩ := DataW.trod_struct Tryz.underlying33 hf
  match cs, hl with
  | [c0, c1, c2, c3, c4, c5], _ =>
    match xs, hlen with
    | [y0, y1, y2, y3, y4, y5], _ =>
      have g0 : DataW.trod enc Tryz.prog W 0 (fun _ => true) true n 3 [c0] = some y0 := hg 0 _ rfl
      have g1 : DataW.trod enc Tryz.prog W 0 (fun _ => true) true n 9 [c1] = some y1 := hg 1 _ rfl
      have g2 : DataW.trod enc Tryz.prog W 0 (fun _ => true) true n 9 [c2] = some y2 := hg 2 _ rfl
      have g3 : DataW.trod enc Tryz.prog W 0 (fun _ => true) true n 3 [c3] = some y3 := hg 3 _ rfl
      have g4 : DataW.trod enc Tryz.prog W 0 (fun _ => true) true n 31 [c4] = some y4 := hg 4 _ rfl
      have g5 : DataW.trod enc Tryz.prog W 0 (fun _ => true) true n 31 [c5] = some y5 := hg 5 _ rfl
      obtain ⟨k, hc, _, wk⟩ := DataW.trod_int Tryz.underlying3 g0
      obtain rfl : c0 = .int .i64 k := by simpa using hc
      have hw : -9223372036854775808 ≤ k ∧ k ≤ 9223372036854775807 := by simpa [Lit.wf, IntKind.min, IntKind.max, IntKind.signed, IntKind.bits] using wk
      obtain ⟨s1, hc1, _, z1⟩ := DataW.trod_string Tryz.underlying9 g1
      obtain rfl : c1 = .string s1 := by simpa using hc1
      obtain ⟨s2, hc2, _, z2⟩ := DataW.trod_string Tryz.underlying9 g2
      obtain rfl : c2 = .string s2 := by simpa using hc2
      obtain ⟨m, hc3, _, wm⟩ := DataW.trod_int Tryz.underlying3 g3
      obtain rfl : c3 = .int .i64 m := by simpa using hc3
      have hw3 : -9223372036854775808 ≤ m ∧ m ≤ 9223372036854775807 := by simpa [Lit.wf, IntKind.min, IntKind.max, IntKind.signed, IntKind.bits] using wm
      obtain ⟨A4, s4, p4, rfl, hs4, hm4, hr4⟩ := open_strs g4
      obtain ⟨A5, s5, p5, rfl, hs5, hm5, hr5⟩ := open_strs g5
      clear g0 g1 g2 g3 g4 g5 wk wm hc hc1 hc2 hc3
      refine ⟨⟨k, s1, s2, m, A4, p4, lists s4, A5, p5, lists s5⟩, by simp [Pm.cells, lists_len], ?_⟩
      exact ⟨⟨by rw [Pm.hm, toBs_lists]; exact hs4, by rw [Pm.hm, toBs_lists]; exact hs5, by rw [Pm.hm, lists_len]; exact hr4, by rw [Pm.hm, lists_len]; exact hr5, hw3.1, hw3.2, by rw [Pm.hm, lists_len]; exact hm4, by rw [Pm.hm, lists_len]; exact hm5⟩, Nat.le_trans z1 (by decide), Nat.le_trans z2 (by decide), hw.1, hw.2⟩

theorem open_prims {H : Type} {enc : TypeId × Value → H} {W : World} {fuel : Nat} {v : Value} {y : DataW H × List MemPlace} (hf : DataW.trod enc Tryz.prog W 0 (fun _ => true) true fuel 22 [v] = some y) :
    ∃ (A : Option Addr) (hs : List Pm) (cap : Nat), v = .slice A hs.length cap ∧ Ps W W.heap.size A hs ∧ hs.length ≤ 9223372036854775807 ∧ Room A hs.length cap := by
  have hlt := DataW.trod_lt fuel _ _ _ hf
  have hC : Tryz.prog.cellsOf 33 = 6 := by kernel_rfl
  rcases Go.Deep.open_slice Tryz.underlying22 hf with ⟨hcs, _⟩ | ⟨a, len, cap, m, n, D, Pl, hcs, _, hl, hm, hmm, hx, hi⟩
  · obtain rfl : v = .slice none 0 0 := by simpa using hcs
    exact ⟨none, [], 0, rfl, Ps.nil, by simp, fun _ => rfl, Nat.le_refl _⟩
  · obtain rfl : v = .slice (some a) len cap := by simpa using hcs
    simp only [if_true] at hmm
    unfold maxLen at hm
    obtain ⟨b, off, spot⟩ := a
    have each : ∀ i, i < len → ∃ h : Pm, (∀ j (u : Value), h.cells[j]? = some u → W.cell? ((⟨b, off, spot⟩ : Addr).add (i * 6 + j)) = some u) ∧ h.Ok W W.heap.size := by
      intro i hil
      obtain ⟨cs', hc, ht'⟩ := hi i (by omega)
      rw [hC] at hc
      obtain ⟨_, hcl, hat⟩ := World.cells?_some hc
      obtain ⟨h, rfl, hok⟩ := open_prim ht' hcl
      refine ⟨h, fun j u hj => ?_, hok⟩
      rw [← Go.Deep.add_add]
      have hj3 : j < 6 := by
        have := (List.getElem?_eq_some_iff.1 hj).1
        exact this
      rw [hat j hj3, hj]
    obtain ⟨hs, hlen, hp⟩ := list_of_steps len each
    subst hlen
    refine ⟨some ⟨b, off, spot⟩, hs, cap, rfl, ⟨fun hpos => ?_, fun h hh => ?_⟩, by omega, (fun e => by cases e), hl⟩
    · have h0 := (hp 0 hpos).1 0 _ rfl
      have hspot : spot = none := by simpa [Addr.add] using World.cell?_spot h0
      subst hspot
      have e : ∀ i, (⟨b, off, none⟩ : Addr).add i = ⟨b, off + i, none⟩ := fun i => by unfold Addr.add; split <;> simp_all
      refine ⟨b, off, rfl, ?_, fun j hj => ?_⟩
      · have h1 := (hp 0 hpos).1 0 _ rfl
        rw [e] at h1
        unfold World.cell? at h1
        rcases Nat.lt_or_ge b W.heap.size with h2 | h2
        · exact h2
        · rw [Array.getElem?_eq_none h2] at h1; simp at h1
      · have k0 := (hp j hj).1 0 _ rfl
        have k1 := (hp j hj).1 1 _ rfl
        have k2 := (hp j hj).1 2 _ rfl
        have k3 := (hp j hj).1 3 _ rfl
        have k4 := (hp j hj).1 4 _ rfl
        have k5 := (hp j hj).1 5 _ rfl
        rw [e] at k0 k1 k2 k3 k4 k5
        exact ⟨k0, k1, k2, k3, k4, k5⟩
    · obtain ⟨j, hj, rfl⟩ := List.getElem_of_mem hh
      exact (hp j hj).2
end Go.Proofs.YtalabahjfmcnbaaGreatDoor
