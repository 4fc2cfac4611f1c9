/-
  ClashOps, proved: why any two operations clash, both ways the same. Conditions: none beside the form's own.
-/
import Derived.Test.YtideldgblafhlaaDoorCk21
import Derived.Test.YtideldgblafhlaaDoorCk23
import Derived.Lib.SlicesCompact
import Derived.Test.YtideldgblafhlaaDoorShelf
import Derived.BigQuiet
import Derived.Deep.QuietTactic
import Derived.Test.YtideldgblafhlaaDoorProg
import Derived.WalkKit
import Derived.WalkSpells
import Derived.Handy
import Derived.Lib.Hide
import Derived.Shelf.Strings.BuilderK
import Derived.Deep.CutRange
import Derived.Test.YtideldgblafhlaaDoorRows
import Derived.Test.YtideldgblafhlaaDoorCards
import Derived.Test.YtideldgblafhlaaDoorTie
import Derived.SevenTiedAt
import Derived.Lay
import Derived.ProofKit
import Derived.OpenShut
import Derived.ShutString
import Derived.ChangeOld
import Derived.SliceStrings
namespace Go.Proofs.YtideldgblafhlaaDoor.lawClashOps
open Go.ChangeShapes Go.WideShapes Go.ChangeAt Go.RowKit
open Go.ChangeMaps (open_string shut_string)
set_option linter.unusedVariables false

theorem own : ownKnob Tryd.prog.godebug = none := by kernel_rfl
theorem laidOut : laidOutB Tryd.prog = true := by kernel_rfl

theorem walk (x q : Om) (w : World) (ox : x.Ok w w.heap.size) (ix : x.Inz) (oq : q.Ok w w.heap.size) (iq : q.Inz) (hT : Nums w ∧ Tabs w) :
    Calls Tryd.prog 3 #[x.val, q.val] w fun e w' => e = .returned (.bool true) ∧ Below w.heap.size w w' :=
  clashops_any clash_c aw_c x q w ox oq ix.inn iq.inn ix.mz iq.mz hT.2 hT.1

theorem laid_eq : Rows.clashOpsRow.laid = laidOps := rfl

set_option maxRecDepth 100000 in
theorem lifted (os : Os) (started : os.Started) (H : Type) (enc : TypeId × Value → H) :
    ReturnsInHanded {} Tryd.checked os 3 .any (fun w args => (Rows.clashOpsSpec.pre enc Tryd.prog Tryd.f3 Rows.clashOpsRow.domain false w args ∧ laidMetH Tryd.prog Rows.clashOpsRow.laid w) ∧ sizedMet enc Tryd.prog Tryd.f3 (OpenSpec.ofChange Rows.clashOpsSpec) false w args)
      (Rows.clashOpsSpec.post enc Tryd.prog Tryd.f3 false true false false) := by
  refine returnsInHanded_of_change_and (C := Tryd.checked) (X := fun w _ => laidMetH Tryd.prog Rows.clashOpsRow.laid w) (fun _ _ _ hh h => h.of_heap hh) own started (by kernel_rfl) Tryd.func3
    (ChangeSpec.witness_shaped (enc := enc) (C := Tryd.checked) (os := os) (X := fun w _ => laidMetH Tryd.prog Rows.clashOpsRow.laid w) false (World.laidAll Tryd.prog os Rows.clashOpsRow.laid) #[.agg #[.int .i64 0, .string ⟨#[]⟩, .int .i64 0, .string ⟨#[]⟩, .int .i64 0, .string ⟨#[]⟩, .int .i64 0, .string ⟨#[]⟩, .string ⟨#[]⟩, .string ⟨#[]⟩, .int .i64 0, .string ⟨#[]⟩, .int .i64 0, .slice none 0 0, .int .i64 0, .slice none 0 0], .agg #[.int .i64 0, .string ⟨#[]⟩, .int .i64 0, .string ⟨#[]⟩, .int .i64 0, .string ⟨#[]⟩, .int .i64 0, .string ⟨#[]⟩, .string ⟨#[]⟩, .string ⟨#[]⟩, .int .i64 0, .string ⟨#[]⟩, .int .i64 0, .slice none 0 0, .int .i64 0, .slice none 0 0]] 8 (World.laidAll_os _ _ _)
      (World.shaped_of_ZipB (by kernel_rfl) (by kernel_rfl)) (by kernel_rfl) (by kernel_rfl) (by kernel_rfl)
      (by rw [MakeChecks.laidMetH_plain _ _ _ (by kernel_rfl)]; exact laidMet_laidAll _ (by kernel_rfl) (by kernel_rfl))) ?_
  intro W base args ds gs before hval0 hW _ hSz hL _
  have hT := ops_of hL
  have hval : ∀ (j : Nat) t v, Tryd.f3.params[j]? = some t → args[j]? = some v → Value.okWide Tryd.prog W .any base t v := hval0
  have hW' := hW
  obtain ⟨p, q, hA0, hV, rfl, hfz, hnd⟩ := hW
  have hA : DataW.TrodAll enc Tryd.prog W 0 (fun _ => true) true Tryd.f3.params.toList args.toList ds p := hA0
  rw [Tryd.params3] at hA hval
  rw [Tryd.params3] at hSz
  obtain ⟨v0, vs0, d0, ds0, p0, q0, hargs, rfl, rfl, h0, r0⟩ := trodAll_cons hA
  obtain ⟨v1, vs1, d1, ds1, p1, q1, rfl, rfl, rfl, h1, r1⟩ := trodAll_cons r0
  obtain ⟨rfl, rfl, rfl⟩ := trodAll_nil r1
  obtain rfl : args = #[v0, v1] := by cases args; simp_all
  obtain ⟨rfl, rfl⟩ := trodVars_none hV
  obtain ⟨cs0, rfl, hsz0⟩ := okWide_struct Tryd.underlying27 (hval 0 27 v0 rfl rfl)
  have k0 := h0
  have lt0 : ∀ x ∈ p0, x.block < W.heap.size := by obtain ⟨m, hm⟩ := k0; exact DataW.trod_lt m _ _ _ hm
  obtain ⟨x0, ex0, ok0, inn0⟩ : ∃ x : Om, cs0 = x.cells.toArray ∧ x.Ok W W.heap.size ∧ x.Inz := by
    obtain ⟨fuel, hf⟩ := h0
    obtain ⟨x, e, ok, hin⟩ := open_opz (cs := cs0.toList) (by simpa [Value.cells] using hf) (by rw [Array.length_toList, hsz0]; kernel_rfl)
    exact ⟨x, by rw [← e], ok, hin (List.all_eq_true.2 fun n hn => List.all_eq_true.1 hSz n (DataW.weights_mem_each (j := 0) (t := 27) rfl rfl n hn))⟩
  obtain ⟨cs1, rfl, hsz1⟩ := okWide_struct Tryd.underlying27 (hval 1 27 v1 rfl rfl)
  have k1 := h1
  have lt1 : ∀ x ∈ p1, x.block < W.heap.size := by obtain ⟨m, hm⟩ := k1; exact DataW.trod_lt m _ _ _ hm
  obtain ⟨x1, ex1, ok1, inn1⟩ : ∃ x : Om, cs1 = x.cells.toArray ∧ x.Ok W W.heap.size ∧ x.Inz := by
    obtain ⟨fuel, hf⟩ := h1
    obtain ⟨x, e, ok, hin⟩ := open_opz (cs := cs1.toList) (by simpa [Value.cells] using hf) (by rw [Array.length_toList, hsz1]; kernel_rfl)
    exact ⟨x, by rw [← e], ok, hin (List.all_eq_true.2 fun n hn => List.all_eq_true.1 hSz n (DataW.weights_mem_each (j := 1) (t := 27) rfl rfl n hn))⟩
  clear hA0 hval0
  subst ex0
  subst ex1
  refine (walk x0 x1 W ok0 inn0 ok1 inn1 hT).mono fun e W' ⟨he, bel⟩ => ?_
  subst he
  exact ⟨_, rfl, _, _, _, [], _, [], hW', trodAll_mk1 (shut_bool Tryd.underlying4 _), (trodAll_cons_mk (Below.trod laidOut (by kernel_rfl) (of_decide_eq_true (by kernel_rfl)) k0 bel lt0) (trodAll_cons_mk (Below.trod laidOut (by kernel_rfl) (of_decide_eq_true (by kernel_rfl)) k1 bel lt1) trodAll_mk0)), rfl, bel.frame _, fun h => by cases h⟩

theorem over : Rows.clashOpsRow.holds Tryd.pinned (OpenSpec.ofChange Rows.clashOpsSpec) :=
  OpenClaim.holds_of_wide 3 Tryd.f3 rfl rfl rfl rfl rfl rfl rfl ⟨rfl, rfl, rfl, rfl, rfl⟩ rfl rfl rfl rfl rfl (by kernel_rfl) Tryd.func3 (by kernel_rfl)
    (of_decide_eq_true (by kernel_rfl)) (by unfold Func.isWrapper; first | (rw [if_pos (by decide +kernel)]; kernel_rfl) | (rw [if_neg (by decide +kernel)]; exact ⟨rfl, rfl⟩))
    (fun os started H enc _ => lifted os started H enc)

set_option maxRecDepth 100000 in
theorem proved : Rows.ClashOpsCardSaid :=
  Claim7.holds_tied_plain_at .later [] [.data, .data, .data, .data, .pinned] true Rows.clashOpsCard.stood.harness Rows.clashOpsCard.stood.looks over (fun _ h => by cases h) (by kernel_rfl) (fun _ h => by cases h) clashOps_row_tie rfl ⟨rfl, rfl⟩ (by kernel_rfl) rfl
    (fun f fn hf hfn => by
      obtain rfl : f = 3 := Option.some.inj ((show Tryd.prog.funcNamed Rows.clashOpsRow.func = some 3 by kernel_rfl).symm.trans hf) |>.symm
      obtain rfl : fn = Tryd.f3 := (Option.some.inj (Tryd.func3.symm.trans hfn)).symm
      exact ⟨by kernel_rfl, fun j t ht => by
        rw [Tryd.params3] at ht
        have hm : t ∈ [27, 27] := by simpa using Array.mem_of_getElem? ht
        have hall : ([27, 27].all fun u => !Tryd.prog.wantsStandIn u) = true := by kernel_rfl
        exact (show Tryd.prog.wantsStandIn t = false by simpa using List.all_eq_true.1 hall t hm)⟩)
    (by kernel_rfl)
end Go.Proofs.YtideldgblafhlaaDoor.lawClashOps
