/-
  DepsNeeds, proved: what any names need, and what needs them; which patches they are of. Conditions: none beside the form's own.
-/
import Derived.Test.YtifkpelcdihdoaaGreatDoorCk16
import Derived.Test.YtifkpelcdihdoaaGreatDoorCk37
import Derived.Test.YtifkpelcdihdoaaGreatDoorProg
import Derived.WalkKit
import Derived.WalkSpells
import Derived.Handy
import Derived.Lib.Hide
import Derived.Shelf.Strings.BuilderK
import Derived.BigQuiet
import Derived.Deep.QuietTactic
import Derived.Lib.AtoiAllCases
import Derived.Lib.ItoaMem
import Derived.Test.YtifkpelcdihdoaaGreatDoorShelf
import Derived.Deep.RegionHeld3
import Derived.Deep.CutRange
import Derived.Lib.AppendIntMem
import Derived.BigRegion
import Derived.Deep.RegionWith
import Derived.Lib.QuietBelow
import Derived.Deep.MidRow
import Derived.StillTailTactics
import Derived.Deep.RegionLaw
import Derived.Test.YtifkpelcdihdoaaGreatDoorRows
import Derived.Test.YtifkpelcdihdoaaGreatDoorCards
import Derived.Test.YtifkpelcdihdoaaGreatDoorTie
import Derived.Lib.LaidU8T
import Derived.PinnedBridge
import Derived.Lay
import Derived.SevenTiedAt
import Derived.ProofKit
import Derived.OpenShut
import Derived.ShutString
import Derived.ChangeOld
import Derived.SliceStrings
namespace Go.Proofs.YtifkpelcdihdoaaGreatDoor.lawDepsNeeds
open Go.ChangeShapes Go.WideShapes Go.ChangeAt Go.RowKit
open Go.ChangeMaps (open_string shut_string)
set_option linter.unusedVariables false

theorem own : ownKnob Tryz.prog.godebug = none := by kernel_rfl
theorem laidOut : laidOutB Tryz.prog = true := by kernel_rfl

theorem walk (A : Option Addr) (l : List Ptm) (cap : Nat) (B : Option Addr) (ss : List ByteArray) (cap2 : Nat) (W : World) (hs : Pats W W.heap.size A l) (hn : l.length ≤ 9223372036854775807) (hr : Room A l.length cap) (hi : ∀ x ∈ l, x.In) (hs2 : Strs W W.heap.size B ss) (hn2 : ss.length ≤ 9223372036854775807) (hr2 : Room B ss.length cap2) (hT : Lib.Utf8Tabs 1 2 W) :
    Calls Tryz.prog 3 #[.slice A l.length cap, .slice B ss.length cap2] W fun e w' => e = .returned (.bool true) ∧ Below W.heap.size W w' := by
  have h := depsneeds_any dep_c aw_d A l cap B (lists ss) cap2 W hs hn hr hi (by rw [toBs_lists]; exact hs2) (by rw [lists_len]; exact hn2) (by rw [lists_len]; exact hr2) hT
  rw [lists_len] at h
  exact h

theorem extra : Proofs.U8Extra Tryz.prog Tryz.lays196_ren := ⟨by kernel_rfl, by kernel_rfl, by kernel_rfl, by kernel_rfl, by kernel_rfl, by kernel_rfl, by kernel_rfl⟩
theorem accept_eq : (Rows.laid_unicode_utf8_acceptRanges : DataW Unit) = Lib.acceptData := by kernel_rfl
theorem tabs_of {W : World} (h : laidMetH Tryz.prog Rows.depsNeedsRow.laid W) : Lib.Utf8Tabs 1 2 W := by
  rw [MakeChecks.laidMetH_plain _ _ _ (by kernel_rfl)] at h
  exact Proofs.utf8Tabs_of_readsT (Proofs.U8Types.of196 Tryz.lays196) extra (Pinned.utf8First_eq ▸ Lib.laidMet.reads h (.tail _ (.head _))) (accept_eq ▸ Lib.laidMet.reads h (.head _))

set_option maxRecDepth 100000 in
theorem lifted (os : Os) (started : os.Started) (H : Type) (enc : TypeId × Value → H) :
    ReturnsInHanded {} Tryz.checked os 3 .any (fun w args => (Rows.depsNeedsSpec.pre enc Tryz.prog Tryz.f3 Rows.depsNeedsRow.domain false w args ∧ laidMetH Tryz.prog Rows.depsNeedsRow.laid w) ∧ sizedMet enc Tryz.prog Tryz.f3 (OpenSpec.ofChange Rows.depsNeedsSpec) false w args)
      (Rows.depsNeedsSpec.post enc Tryz.prog Tryz.f3 false true false false) := by
  refine returnsInHanded_of_change_and (C := Tryz.checked) (X := fun w _ => laidMetH Tryz.prog Rows.depsNeedsRow.laid w) (fun _ _ _ hh h => h.of_heap hh) own started (by kernel_rfl) Tryz.func3
    (ChangeSpec.witness_shaped (enc := enc) (C := Tryz.checked) (os := os) (X := fun w _ => laidMetH Tryz.prog Rows.depsNeedsRow.laid w) false (World.laidAll Tryz.prog os Rows.depsNeedsRow.laid) #[.slice none 0 0, .slice none 0 0] 8 (World.laidAll_os _ _ _)
      (World.shaped_of_ZipB (by kernel_rfl) (by kernel_rfl)) (by kernel_rfl) (by kernel_rfl) (by kernel_rfl)
      (by rw [MakeChecks.laidMetH_plain _ _ _ (by kernel_rfl)]; exact laidMet_laidAll _ (by kernel_rfl) (by kernel_rfl))) ?_
  intro W base args ds gs before hval0 hW _ hSz hL _
  have hT := tabs_of hL
  have hval : ∀ (j : Nat) t v, Tryz.f3.params[j]? = some t → args[j]? = some v → Value.okWide Tryz.prog W .any base t v := hval0
  have hW' := hW
  obtain ⟨p, q, hA0, hV, rfl, hfz, hnd⟩ := hW
  have hA : DataW.TrodAll enc Tryz.prog W 0 (fun _ => true) true Tryz.f3.params.toList args.toList ds p := hA0
  rw [Tryz.params3] at hA hval
  rw [Tryz.params3] at hSz
  obtain ⟨v0, vs0, d0, ds0, p0, q0, hargs, rfl, rfl, h0, r0⟩ := trodAll_cons hA
  obtain ⟨v1, vs1, d1, ds1, p1, q1, rfl, rfl, rfl, h1, r1⟩ := trodAll_cons r0
  obtain ⟨rfl, rfl, rfl⟩ := trodAll_nil r1
  obtain rfl : args = #[v0, v1] := by cases args; simp_all
  obtain ⟨rfl, rfl⟩ := trodVars_none hV
  obtain ⟨B0, len0, bcap0, rfl⟩ := okWide_slice Tryz.underlying22 (hval 0 22 v0 rfl rfl)
  have k0 := h0
  have lt0 : ∀ x ∈ p0, x.block < W.heap.size := by obtain ⟨m, hm⟩ := k0; exact DataW.trod_lt m _ _ _ hm
  obtain ⟨A0, ss0, cap0, he0, hstrs0, hmax0, hroom0, hmore0⟩ : ∃ A ss cap, Value.slice B0 len0 bcap0 = .slice A (List.length (α := Ptm) ss) cap ∧ Pats W W.heap.size A ss ∧ ss.length ≤ 9223372036854775807 ∧ Room A ss.length cap ∧ ∀ h ∈ ss, h.In := by
    obtain ⟨fuel, hf⟩ := h0
    obtain ⟨A, ss, cap, e, a, b, c, z⟩ := open_pats (v := Value.slice B0 len0 bcap0) (by simpa [Value.cells] using hf)
    exact ⟨A, ss, cap, e, a, b, c, z (List.all_eq_true.2 fun n hn => List.all_eq_true.1 hSz n (DataW.weights_mem_each (j := 0) (t := 22) rfl rfl n hn))⟩
  obtain ⟨B1, len1, bcap1, rfl⟩ := okWide_slice Tryz.underlying23 (hval 1 23 v1 rfl rfl)
  have k1 := h1
  have lt1 : ∀ x ∈ p1, x.block < W.heap.size := by obtain ⟨m, hm⟩ := k1; exact DataW.trod_lt m _ _ _ hm
  obtain ⟨A1, ss1, cap1, he1, hstrs1, hmax1, hroom1⟩ : ∃ A ss cap, Value.slice B1 len1 bcap1 = .slice A (List.length (α := ByteArray) ss) cap ∧ Strs W W.heap.size A ss ∧ ss.length ≤ 9223372036854775807 ∧ Room A ss.length cap := by
    obtain ⟨fuel, hf⟩ := h1
    exact open_strs (by simpa [Value.cells] using hf)
  clear hA0 hval0
  simp only [Value.slice.injEq] at he0
  obtain ⟨rfl, rfl, rfl⟩ := he0
  simp only [Value.slice.injEq] at he1
  obtain ⟨rfl, rfl, rfl⟩ := he1
  refine (walk B0 ss0 bcap0 B1 ss1 bcap1 W hstrs0 hmax0 hroom0 hmore0 hstrs1 hmax1 hroom1 hT).mono fun e W' ⟨he, bel⟩ => ?_
  subst he
  exact ⟨_, rfl, _, _, _, [], _, [], hW', trodAll_mk1 (shut_bool Tryz.underlying4 _), (trodAll_cons_mk (Below.trod laidOut (by kernel_rfl) (of_decide_eq_true (by kernel_rfl)) k0 bel lt0) (trodAll_cons_mk (Below.trod laidOut (by kernel_rfl) (of_decide_eq_true (by kernel_rfl)) k1 bel lt1) trodAll_mk0)), rfl, bel.frame _, fun h => by cases h⟩

theorem over : Rows.depsNeedsRow.holds Tryz.pinned (OpenSpec.ofChange Rows.depsNeedsSpec) :=
  OpenClaim.holds_of_wide 3 Tryz.f3 rfl rfl rfl rfl rfl rfl rfl ⟨rfl, rfl, rfl, rfl, rfl⟩ rfl rfl rfl rfl rfl (by kernel_rfl) Tryz.func3 (by kernel_rfl)
    (of_decide_eq_true (by kernel_rfl)) (by unfold Func.isWrapper; first | (rw [if_pos (by decide +kernel)]; kernel_rfl) | (rw [if_neg (by decide +kernel)]; exact ⟨rfl, rfl⟩))
    (fun os started H enc _ => lifted os started H enc)

set_option maxRecDepth 100000 in
theorem proved : Rows.DepsNeedsCardSaid :=
  Claim7.holds_tied_plain_at .later [] [.data, .pinned] true Rows.depsNeedsCard.stood.harness Rows.depsNeedsCard.stood.looks over (fun _ h => by cases h) (by kernel_rfl) (fun _ h => by cases h) depsNeeds_row_tie rfl ⟨rfl, rfl⟩ (by kernel_rfl) rfl
    (fun f fn hf hfn => by
      obtain rfl : f = 3 := Option.some.inj ((show Tryz.prog.funcNamed Rows.depsNeedsRow.func = some 3 by kernel_rfl).symm.trans hf) |>.symm
      obtain rfl : fn = Tryz.f3 := (Option.some.inj (Tryz.func3.symm.trans hfn)).symm
      exact ⟨by kernel_rfl, fun j t ht => by
        rw [Tryz.params3] at ht
        have hm : t ∈ [22, 23] := by simpa using Array.mem_of_getElem? ht
        have hall : ([22, 23].all fun u => !Tryz.prog.wantsStandIn u) = true := by kernel_rfl
        exact (show Tryz.prog.wantsStandIn t = false by simpa using List.all_eq_true.1 hall t hm)⟩)
    (by kernel_rfl)
end Go.Proofs.YtifkpelcdihdoaaGreatDoor.lawDepsNeeds
