/-
  NameSets, proved: whatever two lists and whatever text come in, the call answers true, and each argument reads afterwards as it read before. Conditions: none beside the form's own.
-/
import Derived.Test.YtekegomlodbohaaNameSets
import Derived.Test.YtekegomlodbohaaRows
import Derived.ProofKit
import Derived.OpenShut
import Derived.ShutString
import Derived.ChangeOld
import Derived.SliceStrings
namespace Go.Proofs.Ytekegomlodbohaa.lawNameSets
open Go.ChangeShapes Go.WideShapes Go.ChangeAt Go.RowKit
open Go.ChangeMaps (open_string shut_string)
set_option linter.unusedVariables false

theorem own : ownKnob Try.prog.godebug = none := by kernel_rfl
theorem laidOut : laidOutB Try.prog = true := by kernel_rfl

theorem walk (A : Option Addr) (ss : List ByteArray) (cap : Nat) (A2 : Option Addr) (tt : List ByteArray) (cap2 : Nat) (x : ByteArray) (w : World) (hs : Strs w w.heap.size A ss) (hn : ss.length ≤ 9223372036854775807) (hA : A = none → cap = 0) (ht : Strs w w.heap.size A2 tt) (hn2 : tt.length ≤ 9223372036854775807) (hA2 : A2 = none → cap2 = 0) (hx : x.size ≤ 9223372036854775807) :
    Calls Try.prog 4 #[.slice A ss.length cap, .slice A2 tt.length cap2, .string x] w fun e w' => e = .returned (.bool true) ∧ Below w.heap.size w w' := by
  cases h1 : lightB ss with
  | false => exact sets_dark A A2 ss tt cap cap2 x w hs ht hn hn2 (.inl h1)
  | true =>
    cases h2 : lightB tt with
    | false => exact sets_dark A A2 ss tt cap cap2 x w hs ht hn hn2 (.inr h2)
    | true =>
      have h := sets_light A A2 (lists ss) (lists tt) cap cap2 x w hA hA2 (by rw [toBs_lists]; exact hs) (by rw [toBs_lists]; exact ht) (by rw [lists_len]; exact lightB_len h1) (by rw [lists_len]; exact lightB_len h2) (by rw [toBs_lists]; exact h1) (by rw [toBs_lists]; exact h2)
      rw [lists_len, lists_len] at h
      exact h

set_option maxRecDepth 100000 in
theorem lifted (os : Os) (started : os.Started) (H : Type) (enc : TypeId × Value → H) :
    ReturnsInHanded {} Try.checked os 4 .any (Rows.nameSetsSpec.pre6 enc Try.prog Try.f4 Rows.nameSetsRow.domain false) (Rows.nameSetsSpec.post enc Try.prog Try.f4 false true false false) := by
  refine returnsInHanded_of_change (C := Try.checked) own started (by kernel_rfl) Try.func4
    (ChangeSpec.witness6 (enc := enc) (C := Try.checked) false ⟨#[], #[.slice none 0 0, .slice none 0 0, .string ⟨#[]⟩], []⟩ 8 (by kernel_rfl) (by kernel_rfl) (by kernel_rfl) (by kernel_rfl)) ?_
  intro W base args ds gs before hval0 hW hcnd _
  have hval : ∀ (j : Nat) t v, Try.f4.params[j]? = some t → args[j]? = some v → Value.okWide Try.prog W .any base t v := hval0
  have hW' := hW
  obtain ⟨p, q, hA0, hV, rfl, hfz, hnd⟩ := hW
  have hA : DataW.TrodAll enc Try.prog W 0 (fun _ => true) true Try.f4.params.toList args.toList ds p := hA0
  rw [Try.params4] at hA hval
  obtain ⟨v0, vs0, d0, ds0, p0, q0, hargs, rfl, rfl, h0, r0⟩ := trodAll_cons hA
  obtain ⟨v1, vs1, d1, ds1, p1, q1, rfl, rfl, rfl, h1, r1⟩ := trodAll_cons r0
  obtain ⟨v2, vs2, d2, ds2, p2, q2, rfl, rfl, rfl, h2, r2⟩ := trodAll_cons r1
  obtain ⟨rfl, rfl, rfl⟩ := trodAll_nil r2
  obtain rfl : args = #[v0, v1, v2] := by cases args; simp_all
  obtain ⟨rfl, rfl⟩ := trodVars_none hV
  obtain ⟨A0, len0, cap0, rfl⟩ := okWide_slice Try.underlying24 (hval 0 24 v0 rfl rfl)
  have k0 := h0
  have lt0 : ∀ x ∈ p0, x.block < W.heap.size := by obtain ⟨m, hm⟩ := k0; exact DataW.trod_lt m _ _ _ hm
  obtain ⟨ss0, hlen0, hstrs0, hmax0, hnil0⟩ : ∃ ss : List ByteArray, ss.length = len0 ∧ Strs W W.heap.size A0 ss ∧ ss.length ≤ 9223372036854775807 ∧ (A0 = none → cap0 = 0) := by
    obtain ⟨fuel, hf⟩ := h0
    rcases open_strings Try.underlying24 Try.underlying9 (by kernel_rfl) hf with ⟨hcs, hx⟩ | ⟨x, l, c, zs, hcs, _, hl, hm, hz, hx, hcell, hwz⟩
    · simp [Value.cells] at hcs
      obtain ⟨rfl, rfl, rfl⟩ := hcs
      exact ⟨[], rfl, Strs.none_, by simp, fun _ => rfl⟩
    · simp [Value.cells] at hcs
      obtain ⟨rfl, rfl, rfl⟩ := hcs
      simp only [if_true] at hz
      simp only [Prod.mk.injEq] at hx
      obtain ⟨_, hp⟩ := hx
      unfold maxLen at hm
      refine ⟨zs.take len0, by rw [List.length_take]; omega, fun hpos => ?_, by rw [List.length_take]; omega, fun e => by cases e⟩
      obtain ⟨b, off, spot⟩ := x
      have hspot : spot = none := by simpa [Addr.add] using World.cell?_spot (hcell 0 (by rw [List.length_take] at hpos; omega))
      subst hspot
      refine ⟨b, off, rfl, ?_, fun j hj => ?_⟩
      · have := lt0 (.cell b off) (by rw [hp]; exact MemPlace.mem_row.2 ⟨0, by rw [List.length_take] at hpos; omega, by simp⟩)
        exact this
      · have hj2 : j < len0 := by rw [List.length_take] at hj; omega
        have hc := hcell j (by omega)
        have e : (⟨b, off, none⟩ : Addr).add j = ⟨b, off + j, none⟩ := by unfold Addr.add; split <;> simp_all
        rw [e] at hc
        rw [hc, List.getElem_take]
        simp [List.getD_eq_getElem?_getD, List.getElem?_eq_getElem (show j < zs.length by omega)]
  obtain ⟨A1, len1, cap1, rfl⟩ := okWide_slice Try.underlying24 (hval 1 24 v1 rfl rfl)
  have k1 := h1
  have lt1 : ∀ x ∈ p1, x.block < W.heap.size := by obtain ⟨m, hm⟩ := k1; exact DataW.trod_lt m _ _ _ hm
  obtain ⟨ss1, hlen1, hstrs1, hmax1, hnil1⟩ : ∃ ss : List ByteArray, ss.length = len1 ∧ Strs W W.heap.size A1 ss ∧ ss.length ≤ 9223372036854775807 ∧ (A1 = none → cap1 = 0) := by
    obtain ⟨fuel, hf⟩ := h1
    rcases open_strings Try.underlying24 Try.underlying9 (by kernel_rfl) hf with ⟨hcs, hx⟩ | ⟨x, l, c, zs, hcs, _, hl, hm, hz, hx, hcell, hwz⟩
    · simp [Value.cells] at hcs
      obtain ⟨rfl, rfl, rfl⟩ := hcs
      exact ⟨[], rfl, Strs.none_, by simp, fun _ => rfl⟩
    · simp [Value.cells] at hcs
      obtain ⟨rfl, rfl, rfl⟩ := hcs
      simp only [if_true] at hz
      simp only [Prod.mk.injEq] at hx
      obtain ⟨_, hp⟩ := hx
      unfold maxLen at hm
      refine ⟨zs.take len1, by rw [List.length_take]; omega, fun hpos => ?_, by rw [List.length_take]; omega, fun e => by cases e⟩
      obtain ⟨b, off, spot⟩ := x
      have hspot : spot = none := by simpa [Addr.add] using World.cell?_spot (hcell 0 (by rw [List.length_take] at hpos; omega))
      subst hspot
      refine ⟨b, off, rfl, ?_, fun j hj => ?_⟩
      · have := lt1 (.cell b off) (by rw [hp]; exact MemPlace.mem_row.2 ⟨0, by rw [List.length_take] at hpos; omega, by simp⟩)
        exact this
      · have hj2 : j < len1 := by rw [List.length_take] at hj; omega
        have hc := hcell j (by omega)
        have e : (⟨b, off, none⟩ : Addr).add j = ⟨b, off + j, none⟩ := by unfold Addr.add; split <;> simp_all
        rw [e] at hc
        rw [hc, List.getElem_take]
        simp [List.getD_eq_getElem?_getD, List.getElem?_eq_getElem (show j < zs.length by omega)]
  obtain ⟨s2, rfl, rfl, rfl, w2⟩ := open_string Try.underlying9 (hval 2 9 v2 rfl rfl) h2
  have hw2 : s2.size ≤ 9223372036854775807 := by unfold maxLen at w2; omega
  clear hA0 hval0
  subst hlen0
  subst hlen1
  refine (walk A0 ss0 cap0 A1 ss1 cap1 s2 W hstrs0 hmax0 hnil0 hstrs1 hmax1 hnil1 hw2).mono fun e W' ⟨he, bel⟩ => ?_
  subst he
  exact ⟨_, rfl, _, _, _, [], _, [], hW', trodAll_mk1 (shut_bool Try.underlying4 _), (trodAll_cons_mk (Below.trod laidOut (by kernel_rfl) (of_decide_eq_true (by kernel_rfl)) k0 bel lt0) (trodAll_cons_mk (Below.trod laidOut (by kernel_rfl) (of_decide_eq_true (by kernel_rfl)) k1 bel lt1) (trodAll_cons_mk (shut_string Try.underlying9 w2) trodAll_mk0))), rfl, bel.frame _, fun h => by cases h⟩

theorem over : Rows.nameSetsRow.holds Try.pinned (OpenSpec.ofChange Rows.nameSetsSpec) :=
  OpenClaim.holds_of_wide 4 Try.f4 rfl rfl rfl rfl rfl rfl rfl ⟨rfl, rfl, rfl, rfl, rfl⟩ rfl rfl rfl rfl rfl (by kernel_rfl) Try.func4 (by kernel_rfl)
    (of_decide_eq_true (by kernel_rfl)) (by unfold Func.isWrapper; first | (rw [if_pos (by decide +kernel)]; kernel_rfl) | (rw [if_neg (by decide +kernel)]; exact ⟨rfl, rfl⟩))
    (fun os started H enc _ => lifted os started H enc)

theorem proved : Rows.NameSetsSaid := over
end Go.Proofs.Ytekegomlodbohaa.lawNameSets
