
/-
  DiffApplies, proved: any hunks done to any list are what the reference tells, or what is wrong is told; and they are taken back. Conditions: none beside the form's own.
-/
import Derived.Test.YtmffmhadimeplaaDHunks
import Derived.Test.YtmffmhadimeplaaOpen
import Derived.Test.YtmffmhadimeplaaOpenHunk
import Derived.Test.YtmffmhadimeplaaRows
import Derived.ProofKit
import Derived.OpenShut
import Derived.ShutString
import Derived.ChangeOld
import Derived.SliceStrings
namespace Go.Proofs.Ytmffmhadimeplaa.lawDiffApplies
open Go.ChangeShapes Go.WideShapes Go.ChangeAt Go.RowKit
open Go.ChangeMaps (open_string shut_string)
set_option linter.unusedVariables false

theorem own : ownKnob Try.prog.godebug = none := by kernel_rfl
theorem laidOut : laidOutB Try.prog = true := by kernel_rfl

theorem walk (A : Option Addr) (ss : List ByteArray) (cap : Nat) (A1 : Option Addr) (hs : List Hm) (k1 : Nat) (A2 : Option Addr) (ks : List Hm) (k2 : Nat) (w : World) (hs0 : Strs w w.heap.size A ss) (hn : ss.length ≤ 9223372036854775807) (hA : Room A ss.length cap) (hk : Hks w w.heap.size A1 hs) (hn2 : hs.length ≤ 9223372036854775807) (hA1 : Room A1 hs.length k1) (gk : Hks w w.heap.size A2 ks) (hn3 : ks.length ≤ 9223372036854775807) (hA2 : Room A2 ks.length k2) :
    Calls Try.prog 4 #[.slice A ss.length cap, .slice A1 hs.length k1, .slice A2 ks.length k2] w fun e w' => e = .returned (.bool true) ∧ Below w.heap.size w w' :=
  diffapplies_any diff_c A A1 A2 ss hs ks cap k1 k2 w hs0 hn hA hk hn2 hA1 gk hn3

set_option maxRecDepth 100000 in
theorem lifted (os : Os) (started : os.Started) (H : Type) (enc : TypeId × Value → H) :
    ReturnsInHanded {} Try.checked os 4 .any (Rows.diffAppliesSpec.pre6 enc Try.prog Try.f4 Rows.diffAppliesRow.domain false) (Rows.diffAppliesSpec.post enc Try.prog Try.f4 false true false false) := by
  refine returnsInHanded_of_change (C := Try.checked) own started (by kernel_rfl) Try.func4
    (ChangeSpec.witness6 (enc := enc) (C := Try.checked) false ⟨#[], #[.slice none 0 0, .slice none 0 0, .slice none 0 0], []⟩ 8 (by kernel_rfl) (by kernel_rfl) (by kernel_rfl) (by kernel_rfl)) ?_
  intro W base args ds gs before hval0 hW hcnd _
  have hval : ∀ (j : Nat) t v, Try.f4.params[j]? = some t → args[j]? = some v → Value.okWide Try.prog W .any base t v := hval0
  have hW' := hW
  obtain ⟨p, q, hA0, hV, rfl, hfz, hnd⟩ := hW
  have hA : DataW.TrodAll enc Try.prog W 0 (fun _ => true) true Try.f4.params.toList args.toList ds p := hA0
  rw [Try.params4] at hA hval
  obtain ⟨v0, vs0, d0, ds0, p0, q0, hargs, rfl, rfl, h0, r0⟩ := trodAll_cons hA
  obtain ⟨v1, vs1, d1, ds1, p1, q1, rfl, rfl, rfl, h1, r1⟩ := trodAll_cons r0
  obtain ⟨v2, vs2, d2, ds2, p2, q2, rfl, rfl, rfl, h2, r2⟩ := trodAll_cons r1
  obtain ⟨rfl, rfl, rfl⟩ := trodAll_nil r2
  obtain rfl : args = #[v0, v1, v2] := by cases args; simp_all
  obtain ⟨rfl, rfl⟩ := trodVars_none hV
  obtain ⟨B0, len0, bcap0, rfl⟩ := okWide_slice Try.underlying22 (hval 0 22 v0 rfl rfl)
  have k0 := h0
  have lt0 : ∀ x ∈ p0, x.block < W.heap.size := by obtain ⟨m, hm⟩ := k0; exact DataW.trod_lt m _ _ _ hm
  obtain ⟨A0, ss0, cap0, he0, hstrs0, hmax0, hroom0⟩ : ∃ A ss cap, Value.slice B0 len0 bcap0 = .slice A (List.length (α := ByteArray) ss) cap ∧ Strs W W.heap.size A ss ∧ ss.length ≤ 9223372036854775807 ∧ Room A ss.length cap := by
    obtain ⟨fuel, hf⟩ := h0
    exact open_strs (by simpa [Value.cells] using hf)
  obtain ⟨B1, len1, bcap1, rfl⟩ := okWide_slice Try.underlying25 (hval 1 25 v1 rfl rfl)
  have k1 := h1
  have lt1 : ∀ x ∈ p1, x.block < W.heap.size := by obtain ⟨m, hm⟩ := k1; exact DataW.trod_lt m _ _ _ hm
  obtain ⟨A1, ss1, cap1, he1, hstrs1, hmax1, hroom1⟩ : ∃ A ss cap, Value.slice B1 len1 bcap1 = .slice A (List.length (α := Hm) ss) cap ∧ Hks W W.heap.size A ss ∧ ss.length ≤ 9223372036854775807 ∧ Room A ss.length cap := by
    obtain ⟨fuel, hf⟩ := h1
    exact open_hunks (by simpa [Value.cells] using hf)
  obtain ⟨B2, len2, bcap2, rfl⟩ := okWide_slice Try.underlying25 (hval 2 25 v2 rfl rfl)
  have k2 := h2
  have lt2 : ∀ x ∈ p2, x.block < W.heap.size := by obtain ⟨m, hm⟩ := k2; exact DataW.trod_lt m _ _ _ hm
  obtain ⟨A2, ss2, cap2, he2, hstrs2, hmax2, hroom2⟩ : ∃ A ss cap, Value.slice B2 len2 bcap2 = .slice A (List.length (α := Hm) ss) cap ∧ Hks W W.heap.size A ss ∧ ss.length ≤ 9223372036854775807 ∧ Room A ss.length cap := by
    obtain ⟨fuel, hf⟩ := h2
    exact open_hunks (by simpa [Value.cells] using hf)
  clear hA0 hval0
  simp only [Value.slice.injEq] at he0
  obtain ⟨rfl, rfl, rfl⟩ := he0
  simp only [Value.slice.injEq] at he1
  obtain ⟨rfl, rfl, rfl⟩ := he1
  simp only [Value.slice.injEq] at he2
  obtain ⟨rfl, rfl, rfl⟩ := he2
  refine (walk B0 ss0 bcap0 B1 ss1 bcap1 B2 ss2 bcap2 W hstrs0 hmax0 hroom0 hstrs1 hmax1 hroom1 hstrs2 hmax2 hroom2).mono fun e W' ⟨he, bel⟩ => ?_
  subst he
  exact ⟨_, rfl, _, _, _, [], _, [], hW', trodAll_mk1 (shut_bool Try.underlying4 _), (trodAll_cons_mk (Below.trod laidOut (by kernel_rfl) (of_decide_eq_true (by kernel_rfl)) k0 bel lt0) (trodAll_cons_mk (Below.trod laidOut (by kernel_rfl) (of_decide_eq_true (by kernel_rfl)) k1 bel lt1) (trodAll_cons_mk (Below.trod laidOut (by kernel_rfl) (of_decide_eq_true (by kernel_rfl)) k2 bel lt2) trodAll_mk0))), rfl, bel.frame _, fun h => by cases h⟩

theorem over : Rows.diffAppliesRow.holds Try.pinned (OpenSpec.ofChange Rows.diffAppliesSpec) :=
  OpenClaim.holds_of_wide 4 Try.f4 rfl rfl rfl rfl rfl rfl rfl ⟨rfl, rfl, rfl, rfl, rfl⟩ rfl rfl rfl rfl rfl (by kernel_rfl) Try.func4 (by kernel_rfl)
    (of_decide_eq_true (by kernel_rfl)) (by unfold Func.isWrapper; first | (rw [if_pos (by decide +kernel)]; kernel_rfl) | (rw [if_neg (by decide +kernel)]; exact ⟨rfl, rfl⟩))
    (fun os started H enc _ => lifted os started H enc)

theorem proved : Rows.DiffAppliesSaid := over
end Go.Proofs.Ytmffmhadimeplaa.lawDiffApplies
