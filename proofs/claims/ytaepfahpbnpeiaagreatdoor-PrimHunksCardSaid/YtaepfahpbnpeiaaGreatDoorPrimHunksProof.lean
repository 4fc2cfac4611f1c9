/-
  PrimHunks, proved: the hunks between two lists of lines, done as steps one by one, the last one first, make one file's lines of the other's. Conditions: none beside the form's own.
-/
import Derived.Test.YtaepfahpbnpeiaaGreatDoorCk44
import Derived.Test.YtaepfahpbnpeiaaGreatDoorCk40
import Derived.Test.YtaepfahpbnpeiaaGreatDoorRows
import Derived.Test.YtaepfahpbnpeiaaGreatDoorCards
import Derived.Test.YtaepfahpbnpeiaaGreatDoorTie
import Derived.Test.YtaepfahpbnpeiaaGreatDoorShelf
import Derived.Lib.LaidU8
import Derived.PinnedBridge
import Derived.Lay
import Derived.SevenTiedAt
import Derived.ProofKit
import Derived.OpenShut
import Derived.ShutString
import Derived.ChangeOld
import Derived.SliceStrings
namespace Go.Proofs.YtaepfahpbnpeiaaGreatDoor.lawPrimHunks
open Go.ChangeShapes Go.WideShapes Go.ChangeAt Go.RowKit
open Go.ChangeMaps (open_string shut_string)
set_option linter.unusedVariables false

theorem own : ownKnob Tryz.prog.godebug = none := by kernel_rfl
theorem laidOut : laidOutB Tryz.prog = true := by kernel_rfl

theorem walk (s : ByteArray) (A : Option Addr) (sa : List ByteArray) (ca : Nat) (A2 : Option Addr) (sb : List ByteArray) (cb : Nat) (w : World) (hs : s.size ≤ 9223372036854775807) (h1 : Strs w w.heap.size A sa) (m1 : sa.length ≤ 9223372036854775807) (r1 : Room A sa.length ca) (h2 : Strs w w.heap.size A2 sb) (m2 : sb.length ≤ 9223372036854775807) (r2 : Room A2 sb.length cb) (hT : Lib.Utf8Tabs 0 1 w) :
    Calls Tryz.prog 4 #[.string s, .slice A sa.length ca, .slice A2 sb.length cb] w fun e w' => e = .returned (.bool true) ∧ Below w.heap.size w w' := by
  have h := primhunks_any s A (lists sa) ca A2 (lists sb) cb w hs (by rw [toBs_lists]; exact h1) (by rw [lists_len]; exact m1) (by rw [lists_len]; exact r1) (by rw [toBs_lists]; exact h2) (by rw [lists_len]; exact m2) (by rw [lists_len]; exact r2) hT
  rw [lists_len, lists_len] at h
  exact h

theorem extra : Proofs.U8Extra Tryz.prog Tryz.lays260_ren := ⟨by kernel_rfl, by kernel_rfl, by kernel_rfl, by kernel_rfl, by kernel_rfl, by kernel_rfl, by kernel_rfl⟩
theorem accept_eq : (Rows.laid_unicode_utf8_acceptRanges : DataW Unit) = Lib.acceptData := by kernel_rfl
theorem tabs_of {W : World} (h : laidMetH Tryz.prog Rows.primHunksRow.laid W) : Lib.Utf8Tabs 0 1 W := by
  rw [MakeChecks.laidMetH_plain _ _ _ (by kernel_rfl)] at h
  exact Proofs.utf8Tabs_of_reads Tryz.lays260 extra (Pinned.utf8First_eq ▸ Lib.laidMet.reads h (.tail _ (.head _))) (accept_eq ▸ Lib.laidMet.reads h (.head _))

set_option maxRecDepth 100000 in
theorem lifted (os : Os) (started : os.Started) (H : Type) (enc : TypeId × Value → H) :
    ReturnsInHanded {} Tryz.checked os 4 .any (fun w args => (Rows.primHunksSpec.pre enc Tryz.prog Tryz.f4 Rows.primHunksRow.domain false w args ∧ laidMetH Tryz.prog Rows.primHunksRow.laid w) ∧ sizedMet enc Tryz.prog Tryz.f4 (OpenSpec.ofChange Rows.primHunksSpec) false w args)
      (Rows.primHunksSpec.post enc Tryz.prog Tryz.f4 false true false false) := by
  refine returnsInHanded_of_change_and (C := Tryz.checked) (X := fun w _ => laidMetH Tryz.prog Rows.primHunksRow.laid w) (fun _ _ _ hh h => h.of_heap hh) own started (by kernel_rfl) Tryz.func4
    (ChangeSpec.witness_shaped (enc := enc) (C := Tryz.checked) (os := os) (X := fun w _ => laidMetH Tryz.prog Rows.primHunksRow.laid w) false (World.laidAll Tryz.prog os Rows.primHunksRow.laid) #[.string ⟨#[]⟩, .slice none 0 0, .slice none 0 0] 8 (World.laidAll_os _ _ _)
      (World.shaped_of_ZipB (by kernel_rfl) (by kernel_rfl)) (by kernel_rfl) (by kernel_rfl) (by kernel_rfl)
      (by rw [MakeChecks.laidMetH_plain _ _ _ (by kernel_rfl)]; exact laidMet_laidAll _ (by kernel_rfl) (by kernel_rfl))) ?_
  intro W base args ds gs before hval0 hW _ _ hL _
  have hT := tabs_of hL
  have hval : ∀ (j : Nat) t v, Tryz.f4.params[j]? = some t → args[j]? = some v → Value.okWide Tryz.prog W .any base t v := hval0
  have hW' := hW
  obtain ⟨p, q, hA0, hV, rfl, hfz, hnd⟩ := hW
  have hA : DataW.TrodAll enc Tryz.prog W 0 (fun _ => true) true Tryz.f4.params.toList args.toList ds p := hA0
  rw [Tryz.params4] at hA hval
  obtain ⟨v0, vs0, d0, ds0, p0, q0, hargs, rfl, rfl, h0, r0⟩ := trodAll_cons hA
  obtain ⟨v1, vs1, d1, ds1, p1, q1, rfl, rfl, rfl, h1, r1⟩ := trodAll_cons r0
  obtain ⟨v2, vs2, d2, ds2, p2, q2, rfl, rfl, rfl, h2, r2⟩ := trodAll_cons r1
  obtain ⟨rfl, rfl, rfl⟩ := trodAll_nil r2
  obtain rfl : args = #[v0, v1, v2] := by cases args; simp_all
  obtain ⟨rfl, rfl⟩ := trodVars_none hV
  obtain ⟨s0, rfl, rfl, rfl, w0⟩ := open_string Tryz.underlying9 (hval 0 9 v0 rfl rfl) h0
  have hw0 : s0.size ≤ 9223372036854775807 := by unfold maxLen at w0; omega
  obtain ⟨B1, len1, bcap1, rfl⟩ := okWide_slice Tryz.underlying36 (hval 1 36 v1 rfl rfl)
  have k1 := h1
  have lt1 : ∀ x ∈ p1, x.block < W.heap.size := by obtain ⟨m, hm⟩ := k1; exact DataW.trod_lt m _ _ _ hm
  obtain ⟨A1, ss1, cap1, he1, hstrs1, hmax1, hroom1⟩ : ∃ A ss cap, Value.slice B1 len1 bcap1 = .slice A (List.length (α := ByteArray) ss) cap ∧ Strs W W.heap.size A ss ∧ ss.length ≤ 9223372036854775807 ∧ Room A ss.length cap := by
    obtain ⟨fuel, hf⟩ := h1
    exact open_strs (by simpa [Value.cells] using hf)
  obtain ⟨B2, len2, bcap2, rfl⟩ := okWide_slice Tryz.underlying36 (hval 2 36 v2 rfl rfl)
  have k2 := h2
  have lt2 : ∀ x ∈ p2, x.block < W.heap.size := by obtain ⟨m, hm⟩ := k2; exact DataW.trod_lt m _ _ _ hm
  obtain ⟨A2, ss2, cap2, he2, hstrs2, hmax2, hroom2⟩ : ∃ A ss cap, Value.slice B2 len2 bcap2 = .slice A (List.length (α := ByteArray) ss) cap ∧ Strs W W.heap.size A ss ∧ ss.length ≤ 9223372036854775807 ∧ Room A ss.length cap := by
    obtain ⟨fuel, hf⟩ := h2
    exact open_strs (by simpa [Value.cells] using hf)
  clear hA0 hval0
  simp only [Value.slice.injEq] at he1
  obtain ⟨rfl, rfl, rfl⟩ := he1
  simp only [Value.slice.injEq] at he2
  obtain ⟨rfl, rfl, rfl⟩ := he2
  refine (walk s0 B1 ss1 bcap1 B2 ss2 bcap2 W hw0 hstrs1 hmax1 hroom1 hstrs2 hmax2 hroom2 hT).mono fun e W' ⟨he, bel⟩ => ?_
  subst he
  exact ⟨_, rfl, _, _, _, [], _, [], hW', trodAll_mk1 (shut_bool Tryz.underlying4 _), (trodAll_cons_mk (shut_string Tryz.underlying9 w0) (trodAll_cons_mk (Below.trod laidOut (by kernel_rfl) (of_decide_eq_true (by kernel_rfl)) k1 bel lt1) (trodAll_cons_mk (Below.trod laidOut (by kernel_rfl) (of_decide_eq_true (by kernel_rfl)) k2 bel lt2) trodAll_mk0))), rfl, bel.frame _, fun h => by cases h⟩

theorem over : Rows.primHunksRow.holds Tryz.pinned (OpenSpec.ofChange Rows.primHunksSpec) :=
  OpenClaim.holds_of_wide 4 Tryz.f4 rfl rfl rfl rfl rfl rfl rfl ⟨rfl, rfl, rfl, rfl, rfl⟩ rfl rfl rfl rfl rfl (by kernel_rfl) Tryz.func4 (by kernel_rfl)
    (of_decide_eq_true (by kernel_rfl)) (by unfold Func.isWrapper; first | (rw [if_pos (by decide +kernel)]; kernel_rfl) | (rw [if_neg (by decide +kernel)]; exact ⟨rfl, rfl⟩))
    (fun os started H enc _ => lifted os started H enc)

set_option maxRecDepth 100000 in
theorem proved : Rows.PrimHunksCardSaid :=
  Claim7.holds_tied_plain_at .later [] [.data, .pinned] true Rows.primHunksCard.stood.harness Rows.primHunksCard.stood.looks over (fun _ h => by cases h) (by kernel_rfl) (fun _ h => by cases h) primHunks_row_tie rfl ⟨rfl, rfl⟩ (by kernel_rfl) rfl
    (fun f fn hf hfn => by
      obtain rfl : f = 4 := Option.some.inj ((show Tryz.prog.funcNamed Rows.primHunksRow.func = some 4 by kernel_rfl).symm.trans hf) |>.symm
      obtain rfl : fn = Tryz.f4 := (Option.some.inj (Tryz.func4.symm.trans hfn)).symm
      exact ⟨by kernel_rfl, fun j t ht => by
        rw [Tryz.params4] at ht
        have hm : t ∈ [9, 36, 36] := by simpa using Array.mem_of_getElem? ht
        have hall : ([9, 36, 36].all fun u => !Tryz.prog.wantsStandIn u) = true := by kernel_rfl
        exact (show Tryz.prog.wantsStandIn t = false by simpa using List.all_eq_true.1 hall t hm)⟩)
    (by kernel_rfl)
end Go.Proofs.YtaepfahpbnpeiaaGreatDoor.lawPrimHunks
