/-
  SeqSame, proved: rows that change places, and a step that is brought to the front, come to the same tree. Conditions: none beside the form's own.
-/
import Derived.Test.YtalabahjfmcnbaaGreatDoorCk55
import Derived.Test.YtalabahjfmcnbaaGreatDoorCk56
import Derived.BigQuiet
import Derived.Deep.QuietTactic
import Derived.Handy
import Derived.Deep.RegionLaw
import Derived.Deep.RegionHeld3
import Derived.WalkKit
import Derived.Deep.Slices
import Derived.Deep.Fields
import Derived.ChangeSame
import Derived.Test.YtalabahjfmcnbaaGreatDoorRows
import Derived.Test.YtalabahjfmcnbaaGreatDoorCards
import Derived.Test.YtalabahjfmcnbaaGreatDoorTie
import Derived.Test.YtalabahjfmcnbaaGreatDoorShelf
import Derived.Lib.LaidU8
import Derived.PinnedBridge
import Derived.Lay
import Derived.SevenTiedAt
import Derived.Lib.SmallJoins
import Derived.ProofKit
import Derived.OpenShut
import Derived.ShutString
import Derived.ChangeOld
import Derived.SliceStrings
namespace Go.Proofs.YtalabahjfmcnbaaGreatDoor.lawSeqSame
open Go.ChangeShapes Go.WideShapes Go.ChangeAt Go.RowKit
open Go.ChangeMaps (open_string shut_string)
set_option linter.unusedVariables false

theorem own : ownKnob Tryz.prog.godebug = none := by kernel_rfl
theorem laidOut : laidOutB Tryz.prog = true := by kernel_rfl

theorem walk (A0 : Option Addr) (fs : List Fm) (c0 : Nat) (A1 : Option Addr) (la : List Pm) (c1 : Nat) (A2 : Option Addr) (lb : List Pm) (c2 : Nat) (n : Int) (w : World) (h0 : Fs w w.heap.size A0 fs) (m0 : fs.length ≤ 9223372036854775807) (r0 : Room A0 fs.length c0) (q0 : ∀ f ∈ fs, f.p.size ≤ 9223372036854775807 ∧ f.ls.length ≤ 9223372036854775807) (h1 : Ps w w.heap.size A1 la) (m1 : la.length ≤ 9223372036854775807) (r1 : Room A1 la.length c1) (h2 : Ps w w.heap.size A2 lb) (m2 : lb.length ≤ 9223372036854775807) (r2 : Room A2 lb.length c2) (b0 : -9223372036854775808 ≤ n) (b1 : n ≤ 9223372036854775807) (hT : Lib.Utf8Tabs 1 2 w) :
    Calls Tryz.prog 4 #[.agg #[.slice A0 fs.length c0, .slice A1 la.length c1, .slice A2 lb.length c2, .int .i64 n]] w fun e w' => e = .returned (.bool true) ∧ Below w.heap.size w w' :=
  seqsame_any A0 fs c0 A1 la c1 A2 lb c2 n w h0 m0 q0 h1 m1 r1 h2 m2 r2 hT

theorem extra : Proofs.U8Extra Tryz.prog Tryz.lays260_ren := ⟨by kernel_rfl, by kernel_rfl, by kernel_rfl, by kernel_rfl, by kernel_rfl, by kernel_rfl, by kernel_rfl⟩
theorem accept_eq : (Rows.laid_unicode_utf8_acceptRanges : DataW Unit) = Lib.acceptData := by kernel_rfl
theorem tabs_of {W : World} (h : laidMetH Tryz.prog Rows.seqSameRow.laid W) : Lib.Utf8Tabs 1 2 W := by
  rw [MakeChecks.laidMetH_plain _ _ _ (by kernel_rfl)] at h
  exact Proofs.utf8Tabs_of_reads Tryz.lays260 extra (Pinned.utf8First_eq ▸ Lib.laidMet.reads h (.tail _ (.head _))) (accept_eq ▸ Lib.laidMet.reads h (.head _))

set_option maxRecDepth 100000 in
theorem lifted (os : Os) (started : os.Started) (H : Type) (enc : TypeId × Value → H) :
    ReturnsInHanded {} Tryz.checked os 4 .any (fun w args => (Rows.seqSameSpec.pre enc Tryz.prog Tryz.f4 Rows.seqSameRow.domain false w args ∧ laidMetH Tryz.prog Rows.seqSameRow.laid w) ∧ sizedMet enc Tryz.prog Tryz.f4 (OpenSpec.ofChange Rows.seqSameSpec) false w args)
      (Rows.seqSameSpec.post enc Tryz.prog Tryz.f4 false true false false) := by
  refine returnsInHanded_of_change_and (C := Tryz.checked) (X := fun w _ => laidMetH Tryz.prog Rows.seqSameRow.laid w) (fun _ _ _ hh h => h.of_heap hh) own started (by kernel_rfl) Tryz.func4
    (ChangeSpec.witness_shaped (enc := enc) (C := Tryz.checked) (os := os) (X := fun w _ => laidMetH Tryz.prog Rows.seqSameRow.laid w) false (World.laidAll Tryz.prog os Rows.seqSameRow.laid) #[.agg #[.slice none 0 0, .slice none 0 0, .slice none 0 0, .int .i64 0]] 8 (World.laidAll_os _ _ _)
      (World.shaped_of_ZipB (by kernel_rfl) (by kernel_rfl)) (by kernel_rfl) (by kernel_rfl) (by kernel_rfl)
      (by rw [MakeChecks.laidMetH_plain _ _ _ (by kernel_rfl)]; exact laidMet_laidAll _ (by kernel_rfl) (by kernel_rfl))) ?_
  intro W base args ds gs before hval0 hW _ _ hL _
  have hT := tabs_of hL
  have hval : ∀ (j : Nat) t v, Tryz.f4.params[j]? = some t → args[j]? = some v → Value.okWide Tryz.prog W .any base t v := hval0
  have hW' := hW
  obtain ⟨p, q, hA0, hV, rfl, hfz, hnd⟩ := hW
  have hA : DataW.TrodAll enc Tryz.prog W 0 (fun _ => true) true Tryz.f4.params.toList args.toList ds p := hA0
  rw [Tryz.params4] at hA hval
  obtain ⟨v0, vs0, d0, ds0, p0, q0, hargs, rfl, rfl, h0, r0⟩ := trodAll_cons hA
  obtain ⟨rfl, rfl, rfl⟩ := trodAll_nil r0
  obtain rfl : args = #[v0] := by cases args; simp_all
  obtain ⟨rfl, rfl⟩ := trodVars_none hV
  have k0 := h0
  have lt0 : ∀ x ∈ p0, x.block < W.heap.size := by obtain ⟨m, hm⟩ := k0; exact DataW.trod_lt m _ _ _ hm
  obtain ⟨x0_0, x0_1, x0_2, x0_3, y0_0, y0_1, y0_2, y0_3, m0, rfl, hd0, hp0, u0_0, u0_1, u0_2, u0_3⟩ := Joins.open_agg4 Tryz.underlying40 (by kernel_rfl) (by kernel_rfl) (hval 0 40 v0 rfl rfl) h0
  obtain ⟨A0_0, ss0_0, cap0_0, rfl, hs0_0, hm0_0, hn0_0, hq0_0⟩ := open_files u0_0
  obtain ⟨A0_1, ss0_1, cap0_1, rfl, hs0_1, hm0_1, hn0_1⟩ := open_prims u0_1
  obtain ⟨A0_2, ss0_2, cap0_2, rfl, hs0_2, hm0_2, hn0_2⟩ := open_prims u0_2
  obtain ⟨n0_3, hc0_3, _, w0_3⟩ := DataW.trod_int Tryz.underlying3 u0_3
  obtain rfl : x0_3 = .int .i64 n0_3 := by simpa using hc0_3
  have hw0_3 : -9223372036854775808 ≤ n0_3 ∧ n0_3 ≤ 9223372036854775807 := by simpa [Lit.wf, IntKind.min, IntKind.max, IntKind.signed, IntKind.bits] using w0_3
  clear hA0 hval0
  refine (walk A0_0 ss0_0 cap0_0 A0_1 ss0_1 cap0_1 A0_2 ss0_2 cap0_2 n0_3 W hs0_0 hm0_0 hn0_0 hq0_0 hs0_1 hm0_1 hn0_1 hs0_2 hm0_2 hn0_2 hw0_3.1 hw0_3.2 hT).mono fun e W' ⟨he, bel⟩ => ?_
  subst he
  exact ⟨_, rfl, _, _, _, [], _, [], hW', trodAll_mk1 (shut_bool Tryz.underlying4 _), (trodAll_cons_mk (Below.trod laidOut (by kernel_rfl) (of_decide_eq_true (by kernel_rfl)) k0 bel lt0) trodAll_mk0), rfl, bel.frame _, fun h => by cases h⟩

theorem over : Rows.seqSameRow.holds Tryz.pinned (OpenSpec.ofChange Rows.seqSameSpec) :=
  OpenClaim.holds_of_wide 4 Tryz.f4 rfl rfl rfl rfl rfl rfl rfl ⟨rfl, rfl, rfl, rfl, rfl⟩ rfl rfl rfl rfl rfl (by kernel_rfl) Tryz.func4 (by kernel_rfl)
    (of_decide_eq_true (by kernel_rfl)) (by unfold Func.isWrapper; first | (rw [if_pos (by decide +kernel)]; kernel_rfl) | (rw [if_neg (by decide +kernel)]; exact ⟨rfl, rfl⟩))
    (fun os started H enc _ => lifted os started H enc)

set_option maxRecDepth 100000 in
theorem proved : Rows.SeqSameCardSaid :=
  Claim7.holds_tied_plain_at .later [] [.data, .pinned] true Rows.seqSameCard.stood.harness Rows.seqSameCard.stood.looks over (fun _ h => by cases h) (by kernel_rfl) (fun _ h => by cases h) seqSame_row_tie rfl ⟨rfl, rfl⟩ (by kernel_rfl) rfl
    (fun f fn hf hfn => by
      obtain rfl : f = 4 := Option.some.inj ((show Tryz.prog.funcNamed Rows.seqSameRow.func = some 4 by kernel_rfl).symm.trans hf) |>.symm
      obtain rfl : fn = Tryz.f4 := (Option.some.inj (Tryz.func4.symm.trans hfn)).symm
      exact ⟨by kernel_rfl, fun j t ht => by
        rw [Tryz.params4] at ht
        have hm : t ∈ [40] := by simpa using Array.mem_of_getElem? ht
        have hall : ([40].all fun u => !Tryz.prog.wantsStandIn u) = true := by kernel_rfl
        exact (show Tryz.prog.wantsStandIn t = false by simpa using List.all_eq_true.1 hall t hm)⟩)
    (by kernel_rfl)
end Go.Proofs.YtalabahjfmcnbaaGreatDoor.lawSeqSame
