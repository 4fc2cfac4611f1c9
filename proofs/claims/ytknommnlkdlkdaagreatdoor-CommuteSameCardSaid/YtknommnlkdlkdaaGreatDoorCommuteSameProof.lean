/-
  CommuteSame, proved: two steps that are done one behind the other, are done the other way round, too, if they can change places, and come to the same tree; and are as they were, when they change places once more. Conditions: none beside the form's own.
-/
import Derived.Test.YtknommnlkdlkdaaGreatDoorCk38
import Derived.Test.YtknommnlkdlkdaaGreatDoorCk39
import Derived.Test.YtknommnlkdlkdaaGreatDoorRows
import Derived.Test.YtknommnlkdlkdaaGreatDoorCards
import Derived.Test.YtknommnlkdlkdaaGreatDoorTie
import Derived.Test.YtknommnlkdlkdaaGreatDoorShelf
import Derived.Lib.LaidU8
import Derived.PinnedBridge
import Derived.Lay
import Derived.SevenTiedAt
import Derived.ProofKit
import Derived.OpenShut
import Derived.ShutString
import Derived.ChangeOld
import Derived.SliceStrings
namespace Go.Proofs.YtknommnlkdlkdaaGreatDoor.lawCommuteSame
open Go.ChangeShapes Go.WideShapes Go.ChangeAt Go.RowKit
open Go.ChangeMaps (open_string shut_string)
set_option linter.unusedVariables false

theorem own : ownKnob Tryz.prog.godebug = none := by kernel_rfl
theorem laidOut : laidOutB Tryz.prog = true := by kernel_rfl

theorem walk (A : Option Addr) (fs : List Fm) (cap : Nat) (x1 x2 : Pm) (W : World) (h0 : Fs W W.heap.size A fs) (m0 : fs.length ≤ 9223372036854775807) (r0 : Room A fs.length cap) (q0 : ∀ h ∈ fs, h.p.size ≤ 9223372036854775807 ∧ h.ls.length ≤ 9223372036854775807) (ok1 : x1.Ok W W.heap.size) (ok2 : x2.Ok W W.heap.size) (hT : Lib.Utf8Tabs 1 2 W) :
    Calls Tryz.prog 3 #[.slice A fs.length cap, .agg x1.cells.toArray, .agg x2.cells.toArray] W fun e w' => e = .returned (.bool true) ∧ Below W.heap.size W w' :=
  commutesame_any A fs cap x1 x2 W h0 m0 q0 ok1 ok2 hT

theorem extra : Proofs.U8Extra Tryz.prog Tryz.lays260_ren := ⟨by kernel_rfl, by kernel_rfl, by kernel_rfl, by kernel_rfl, by kernel_rfl, by kernel_rfl, by kernel_rfl⟩
theorem accept_eq : (Rows.laid_unicode_utf8_acceptRanges : DataW Unit) = Lib.acceptData := by kernel_rfl
theorem tabs_of {W : World} (h : laidMetH Tryz.prog Rows.commuteSameRow.laid W) : Lib.Utf8Tabs 1 2 W := by
  rw [MakeChecks.laidMetH_plain _ _ _ (by kernel_rfl)] at h
  exact Proofs.utf8Tabs_of_reads Tryz.lays260 extra (Pinned.utf8First_eq ▸ Lib.laidMet.reads h (.tail _ (.head _))) (accept_eq ▸ Lib.laidMet.reads h (.head _))

set_option maxRecDepth 100000 in
theorem lifted (os : Os) (started : os.Started) (H : Type) (enc : TypeId × Value → H) :
    ReturnsInHanded {} Tryz.checked os 3 .any (fun w args => (Rows.commuteSameSpec.pre enc Tryz.prog Tryz.f3 Rows.commuteSameRow.domain false w args ∧ laidMetH Tryz.prog Rows.commuteSameRow.laid w) ∧ sizedMet enc Tryz.prog Tryz.f3 (OpenSpec.ofChange Rows.commuteSameSpec) false w args)
      (Rows.commuteSameSpec.post enc Tryz.prog Tryz.f3 false true false false) := by
  refine returnsInHanded_of_change_and (C := Tryz.checked) (X := fun w _ => laidMetH Tryz.prog Rows.commuteSameRow.laid w) (fun _ _ _ hh h => h.of_heap hh) own started (by kernel_rfl) Tryz.func3
    (ChangeSpec.witness_shaped (enc := enc) (C := Tryz.checked) (os := os) (X := fun w _ => laidMetH Tryz.prog Rows.commuteSameRow.laid w) false (World.laidAll Tryz.prog os Rows.commuteSameRow.laid) #[.slice none 0 0, .agg #[.int .i64 0, .string ⟨#[]⟩, .string ⟨#[]⟩, .int .i64 0, .slice none 0 0, .slice none 0 0], .agg #[.int .i64 0, .string ⟨#[]⟩, .string ⟨#[]⟩, .int .i64 0, .slice none 0 0, .slice none 0 0]] 8 (World.laidAll_os _ _ _)
      (World.shaped_of_ZipB (by kernel_rfl) (by kernel_rfl)) (by kernel_rfl) (by kernel_rfl) (by kernel_rfl)
      (by rw [MakeChecks.laidMetH_plain _ _ _ (by kernel_rfl)]; exact laidMet_laidAll _ (by kernel_rfl) (by kernel_rfl))) ?_
  intro W base args ds gs before hval0 hW _ _ hL _
  have hT := tabs_of hL
  have hval : ∀ (j : Nat) t v, Tryz.f3.params[j]? = some t → args[j]? = some v → Value.okWide Tryz.prog W .any base t v := hval0
  have hW' := hW
  obtain ⟨p, q, hA0, hV, rfl, hfz, hnd⟩ := hW
  have hA : DataW.TrodAll enc Tryz.prog W 0 (fun _ => true) true Tryz.f3.params.toList args.toList ds p := hA0
  rw [Tryz.params3] at hA hval
  obtain ⟨v0, vs0, d0, ds0, p0, q0, hargs, rfl, rfl, h0, r0⟩ := trodAll_cons hA
  obtain ⟨v1, vs1, d1, ds1, p1, q1, rfl, rfl, rfl, h1, r1⟩ := trodAll_cons r0
  obtain ⟨v2, vs2, d2, ds2, p2, q2, rfl, rfl, rfl, h2, r2⟩ := trodAll_cons r1
  obtain ⟨rfl, rfl, rfl⟩ := trodAll_nil r2
  obtain rfl : args = #[v0, v1, v2] := by cases args; simp_all
  obtain ⟨rfl, rfl⟩ := trodVars_none hV
  obtain ⟨B0, len0, bcap0, rfl⟩ := okWide_slice Tryz.underlying22 (hval 0 22 v0 rfl rfl)
  have k0 := h0
  have lt0 : ∀ x ∈ p0, x.block < W.heap.size := by obtain ⟨m, hm⟩ := k0; exact DataW.trod_lt m _ _ _ hm
  obtain ⟨A0, ss0, cap0, he0, hstrs0, hmax0, hroom0, hmore0⟩ : ∃ A ss cap, Value.slice B0 len0 bcap0 = .slice A (List.length (α := Fm) ss) cap ∧ Fs W W.heap.size A ss ∧ ss.length ≤ 9223372036854775807 ∧ Room A ss.length cap ∧ ∀ h ∈ ss, h.p.size ≤ 9223372036854775807 ∧ h.ls.length ≤ 9223372036854775807 := by
    obtain ⟨fuel, hf⟩ := h0
    exact open_files (by simpa [Value.cells] using hf)
  obtain ⟨cs1, rfl, hsz1⟩ := okWide_struct Tryz.underlying25 (hval 1 25 v1 rfl rfl)
  have k1 := h1
  have lt1 : ∀ x ∈ p1, x.block < W.heap.size := by obtain ⟨m, hm⟩ := k1; exact DataW.trod_lt m _ _ _ hm
  obtain ⟨x1, ex1, ok1⟩ : ∃ x : Pm, cs1 = x.cells.toArray ∧ x.Ok W W.heap.size := by
    obtain ⟨fuel, hf⟩ := h1
    obtain ⟨x, e, ok⟩ := open_prim (cs := cs1.toList) (by simpa [Value.cells] using hf) (by rw [Array.length_toList, hsz1]; kernel_rfl)
    exact ⟨x, by rw [← e], ok⟩
  obtain ⟨cs2, rfl, hsz2⟩ := okWide_struct Tryz.underlying25 (hval 2 25 v2 rfl rfl)
  have k2 := h2
  have lt2 : ∀ x ∈ p2, x.block < W.heap.size := by obtain ⟨m, hm⟩ := k2; exact DataW.trod_lt m _ _ _ hm
  obtain ⟨x2, ex2, ok2⟩ : ∃ x : Pm, cs2 = x.cells.toArray ∧ x.Ok W W.heap.size := by
    obtain ⟨fuel, hf⟩ := h2
    obtain ⟨x, e, ok⟩ := open_prim (cs := cs2.toList) (by simpa [Value.cells] using hf) (by rw [Array.length_toList, hsz2]; kernel_rfl)
    exact ⟨x, by rw [← e], ok⟩
  clear hA0 hval0
  simp only [Value.slice.injEq] at he0
  obtain ⟨rfl, rfl, rfl⟩ := he0
  subst ex1
  subst ex2
  refine (walk B0 ss0 bcap0 x1 x2 W hstrs0 hmax0 hroom0 hmore0 ok1 ok2 hT).mono fun e W' ⟨he, bel⟩ => ?_
  subst he
  exact ⟨_, rfl, _, _, _, [], _, [], hW', trodAll_mk1 (shut_bool Tryz.underlying4 _), (trodAll_cons_mk (Below.trod laidOut (by kernel_rfl) (of_decide_eq_true (by kernel_rfl)) k0 bel lt0) (trodAll_cons_mk (Below.trod laidOut (by kernel_rfl) (of_decide_eq_true (by kernel_rfl)) k1 bel lt1) (trodAll_cons_mk (Below.trod laidOut (by kernel_rfl) (of_decide_eq_true (by kernel_rfl)) k2 bel lt2) trodAll_mk0))), rfl, bel.frame _, fun h => by cases h⟩

theorem over : Rows.commuteSameRow.holds Tryz.pinned (OpenSpec.ofChange Rows.commuteSameSpec) :=
  OpenClaim.holds_of_wide 3 Tryz.f3 rfl rfl rfl rfl rfl rfl rfl ⟨rfl, rfl, rfl, rfl, rfl⟩ rfl rfl rfl rfl rfl (by kernel_rfl) Tryz.func3 (by kernel_rfl)
    (of_decide_eq_true (by kernel_rfl)) (by unfold Func.isWrapper; first | (rw [if_pos (by decide +kernel)]; kernel_rfl) | (rw [if_neg (by decide +kernel)]; exact ⟨rfl, rfl⟩))
    (fun os started H enc _ => lifted os started H enc)

set_option maxRecDepth 100000 in
theorem proved : Rows.CommuteSameCardSaid :=
  Claim7.holds_tied_plain_at .later [] [.data, .pinned] true Rows.commuteSameCard.stood.harness Rows.commuteSameCard.stood.looks over (fun _ h => by cases h) (by kernel_rfl) (fun _ h => by cases h) commuteSame_row_tie rfl ⟨rfl, rfl⟩ (by kernel_rfl) rfl
    (fun f fn hf hfn => by
      obtain rfl : f = 3 := Option.some.inj ((show Tryz.prog.funcNamed Rows.commuteSameRow.func = some 3 by kernel_rfl).symm.trans hf) |>.symm
      obtain rfl : fn = Tryz.f3 := (Option.some.inj (Tryz.func3.symm.trans hfn)).symm
      exact ⟨by kernel_rfl, fun j t ht => by
        rw [Tryz.params3] at ht
        have hm : t ∈ [22, 25, 25] := by simpa using Array.mem_of_getElem? ht
        have hall : ([22, 25, 25].all fun u => !Tryz.prog.wantsStandIn u) = true := by kernel_rfl
        exact (show Tryz.prog.wantsStandIn t = false by simpa using List.all_eq_true.1 hall t hm)⟩)
    (by kernel_rfl)
end Go.Proofs.YtknommnlkdlkdaaGreatDoor.lawCommuteSame
