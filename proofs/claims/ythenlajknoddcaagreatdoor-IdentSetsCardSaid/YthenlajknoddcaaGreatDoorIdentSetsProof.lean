
/-
  IdentSets, proved: what any two lists of ids have. Conditions: none beside the form's own.
-/
import Derived.Test.YthenlajknoddcaaGreatDoorIdSetsLaw
import Derived.Test.YthenlajknoddcaaGreatDoorIdCode
import Derived.Test.YthenlajknoddcaaGreatDoorOpenId
import Derived.Test.YthenlajknoddcaaGreatDoorOpen
import Derived.Test.YthenlajknoddcaaGreatDoorRows
import Derived.Test.YthenlajknoddcaaGreatDoorCards
import Derived.Test.YthenlajknoddcaaGreatDoorTie
import Derived.Test.YthenlajknoddcaaGreatDoorIdNums
import Derived.SevenTiedAt
import Derived.Lib.SmallJoins
import Derived.ProofKit
import Derived.OpenShut
import Derived.ShutString
import Derived.ChangeOld
import Derived.SliceStrings
namespace Go.Proofs.YthenlajknoddcaaGreatDoor.lawIdentSets
open Go.ChangeShapes Go.WideShapes Go.ChangeAt Go.RowKit
open Go.ChangeMaps (open_string shut_string)
set_option linter.unusedVariables false

theorem own : ownKnob Tryz.prog.godebug = none := by kernel_rfl
theorem laidOut : laidOutB Tryz.prog = true := by kernel_rfl

theorem walk (A : Option Addr) (la : List Im) (c : Nat) (A2 : Option Addr) (lb : List Im) (c2 : Nat) (p : ByteArray) (n : Int) (w : World) (h0 : Ids w w.heap.size A la) (m0 : la.length ≤ 9223372036854775807) (r0 : Room A la.length c) (h1 : Ids w w.heap.size A2 lb) (m1 : lb.length ≤ 9223372036854775807) (r1 : Room A2 lb.length c2) (hp : p.size ≤ 9223372036854775807) (b0 : -9223372036854775808 ≤ n) (b1 : n ≤ 9223372036854775807) (hT : Nums w) :
    Calls Tryz.prog 3 #[.slice A la.length c, .slice A2 lb.length c2, .agg #[.string p, .int .i64 n]] w fun e w' => e = .returned (.bool true) ∧ Below w.heap.size w w' :=
  identsets_any A la c A2 lb c2 ⟨p, n⟩ w (id_c hT) h0 m0 r0 h1 m1 r1 ⟨hp, b0, b1⟩

theorem laid_eq : Rows.identSetsRow.laid = laidNums := rfl

set_option maxRecDepth 100000 in
theorem lifted (os : Os) (started : os.Started) (H : Type) (enc : TypeId × Value → H) :
    ReturnsInHanded {} Tryz.checked os 3 .any (fun w args => (Rows.identSetsSpec.pre enc Tryz.prog Tryz.f3 Rows.identSetsRow.domain false w args ∧ laidMetH Tryz.prog Rows.identSetsRow.laid w) ∧ sizedMet enc Tryz.prog Tryz.f3 (OpenSpec.ofChange Rows.identSetsSpec) false w args)
      (Rows.identSetsSpec.post enc Tryz.prog Tryz.f3 false true false false) := by
  refine returnsInHanded_of_change_and (C := Tryz.checked) (X := fun w _ => laidMetH Tryz.prog Rows.identSetsRow.laid w) (fun _ _ _ hh h => h.of_heap hh) own started (by kernel_rfl) Tryz.func3
    (ChangeSpec.witness_shaped (enc := enc) (C := Tryz.checked) (os := os) (X := fun w _ => laidMetH Tryz.prog Rows.identSetsRow.laid w) false (World.doorLaid Tryz.prog 400 os) #[.slice none 0 0, .slice none 0 0, .agg #[.string ⟨#[]⟩, .int .i64 0]] 8 rfl
      (World.shaped_of_RefB (by kernel_rfl) (by kernel_rfl)) (by kernel_rfl) (by kernel_rfl) (by kernel_rfl) (door_met os _)) ?_
  intro W base args ds gs before hval0 hW _ _ hL _
  have hT := nums_of hL
  have hval : ∀ (j : Nat) t v, Tryz.f3.params[j]? = some t → args[j]? = some v → Value.okWide Tryz.prog W .any base t v := hval0
  have hW' := hW
  obtain ⟨p, q, hA0, hV, rfl, hfz, hnd⟩ := hW
  have hA : DataW.TrodAll enc Tryz.prog W 0 (fun _ => true) true Tryz.f3.params.toList args.toList ds p := hA0
  rw [Tryz.params3] at hA hval
  obtain ⟨v0, vs0, d0, ds0, p0, q0, hargs, rfl, rfl, h0, r0⟩ := trodAll_cons hA
  obtain ⟨v1, vs1, d1, ds1, p1, q1, rfl, rfl, rfl, h1, r1⟩ := trodAll_cons r0
  obtain ⟨v2, vs2, d2, ds2, p2, q2, rfl, rfl, rfl, h2, r2⟩ := trodAll_cons r1
  obtain ⟨rfl, rfl, rfl⟩ := trodAll_nil r2
  obtain rfl : args = #[v0, v1, v2] := by cases args; simp_all
  obtain ⟨rfl, rfl⟩ := trodVars_none hV
  obtain ⟨B0, len0, bcap0, rfl⟩ := okWide_slice Tryz.underlying22 (hval 0 22 v0 rfl rfl)
  have k0 := h0
  have lt0 : ∀ x ∈ p0, x.block < W.heap.size := by obtain ⟨m, hm⟩ := k0; exact DataW.trod_lt m _ _ _ hm
  obtain ⟨A0, ss0, cap0, he0, hstrs0, hmax0, hroom0⟩ : ∃ A ss cap, Value.slice B0 len0 bcap0 = .slice A (List.length (α := Im) ss) cap ∧ Ids W W.heap.size A ss ∧ ss.length ≤ 9223372036854775807 ∧ Room A ss.length cap := by
    obtain ⟨fuel, hf⟩ := h0
    exact open_ids (by simpa [Value.cells] using hf)
  obtain ⟨B1, len1, bcap1, rfl⟩ := okWide_slice Tryz.underlying22 (hval 1 22 v1 rfl rfl)
  have k1 := h1
  have lt1 : ∀ x ∈ p1, x.block < W.heap.size := by obtain ⟨m, hm⟩ := k1; exact DataW.trod_lt m _ _ _ hm
  obtain ⟨A1, ss1, cap1, he1, hstrs1, hmax1, hroom1⟩ : ∃ A ss cap, Value.slice B1 len1 bcap1 = .slice A (List.length (α := Im) ss) cap ∧ Ids W W.heap.size A ss ∧ ss.length ≤ 9223372036854775807 ∧ Room A ss.length cap := by
    obtain ⟨fuel, hf⟩ := h1
    exact open_ids (by simpa [Value.cells] using hf)
  have k2 := h2
  have lt2 : ∀ x ∈ p2, x.block < W.heap.size := by obtain ⟨m, hm⟩ := k2; exact DataW.trod_lt m _ _ _ hm
  obtain ⟨x2_0, x2_1, y2_0, y2_1, m2, rfl, hd2, hp2, u2_0, u2_1⟩ := Joins.open_agg2 Tryz.underlying24 (by kernel_rfl) (by kernel_rfl) (hval 2 24 v2 rfl rfl) h2
  obtain ⟨s2_0, hc2_0, _, w2_0⟩ := DataW.trod_string Tryz.underlying9 u2_0
  obtain rfl : x2_0 = .string s2_0 := by simpa using hc2_0
  have hw2_0 : s2_0.size ≤ 9223372036854775807 := by unfold maxLen at w2_0; omega
  obtain ⟨n2_1, hc2_1, _, w2_1⟩ := DataW.trod_int Tryz.underlying3 u2_1
  obtain rfl : x2_1 = .int .i64 n2_1 := by simpa using hc2_1
  have hw2_1 : -9223372036854775808 ≤ n2_1 ∧ n2_1 ≤ 9223372036854775807 := by simpa [Lit.wf, IntKind.min, IntKind.max, IntKind.signed, IntKind.bits] using w2_1
  clear hA0 hval0
  simp only [Value.slice.injEq] at he0
  obtain ⟨rfl, rfl, rfl⟩ := he0
  simp only [Value.slice.injEq] at he1
  obtain ⟨rfl, rfl, rfl⟩ := he1
  refine (walk B0 ss0 bcap0 B1 ss1 bcap1 s2_0 n2_1 W hstrs0 hmax0 hroom0 hstrs1 hmax1 hroom1 hw2_0 hw2_1.1 hw2_1.2 hT).mono fun e W' ⟨he, bel⟩ => ?_
  subst he
  exact ⟨_, rfl, _, _, _, [], _, [], hW', trodAll_mk1 (shut_bool Tryz.underlying4 _), (trodAll_cons_mk (Below.trod laidOut (by kernel_rfl) (of_decide_eq_true (by kernel_rfl)) k0 bel lt0) (trodAll_cons_mk (Below.trod laidOut (by kernel_rfl) (of_decide_eq_true (by kernel_rfl)) k1 bel lt1) (trodAll_cons_mk (Below.trod laidOut (by kernel_rfl) (of_decide_eq_true (by kernel_rfl)) k2 bel lt2) trodAll_mk0))), rfl, bel.frame _, fun h => by cases h⟩

theorem over : Rows.identSetsRow.holds Tryz.pinned (OpenSpec.ofChange Rows.identSetsSpec) :=
  OpenClaim.holds_of_wide 3 Tryz.f3 rfl rfl rfl rfl rfl rfl rfl ⟨rfl, rfl, rfl, rfl, rfl⟩ rfl rfl rfl rfl rfl (by kernel_rfl) Tryz.func3 (by kernel_rfl)
    (of_decide_eq_true (by kernel_rfl)) (by unfold Func.isWrapper; first | (rw [if_pos (by decide +kernel)]; kernel_rfl) | (rw [if_neg (by decide +kernel)]; exact ⟨rfl, rfl⟩))
    (fun os started H enc _ => lifted os started H enc)

set_option maxRecDepth 100000 in
theorem proved : Rows.IdentSetsCardSaid :=
  Claim7.holds_tied_plain_at .later [] [.data, .data, .data, .sentinel, .sentinel] true Rows.identSetsCard.stood.harness Rows.identSetsCard.stood.looks over (fun _ h => by cases h) (by kernel_rfl) (fun _ h => by cases h) identSets_row_tie rfl ⟨rfl, rfl⟩ (by kernel_rfl) rfl
    (fun f fn hf hfn => by
      obtain rfl : f = 3 := Option.some.inj ((show Tryz.prog.funcNamed Rows.identSetsRow.func = some 3 by kernel_rfl).symm.trans hf) |>.symm
      obtain rfl : fn = Tryz.f3 := (Option.some.inj (Tryz.func3.symm.trans hfn)).symm
      exact ⟨by kernel_rfl, fun j t ht => by
        rw [Tryz.params3] at ht
        have hm : t ∈ [22, 22, 24] := by simpa using Array.mem_of_getElem? ht
        have hall : ([22, 22, 24].all fun u => !Tryz.prog.wantsStandIn u) = true := by kernel_rfl
        exact (show Tryz.prog.wantsStandIn t = false by simpa using List.all_eq_true.1 hall t hm)⟩)
    (by kernel_rfl)
end Go.Proofs.YthenlajknoddcaaGreatDoor.lawIdentSets
