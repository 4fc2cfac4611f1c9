/- lines.Right and lines.Check. -/
import Derived.Test.YtaepfahpbnpeiaaGreatDoorCk13
import Derived.Lib.ValidLaws
import Derived.Lib.TrimUEq
import Derived.Lib.OthersKept
import Derived.Shelf.Unicode.ValidAny
namespace Go.Proofs.YtaepfahpbnpeiaaGreatDoor
open Go.RowKit
set_option linter.unusedVariables false

/-- Is what stands from byte k on valid UTF-8? -/
def vd (s : ByteArray) (k : Nat) : Bool := Lib.validD (s.data.toList.drop k)
theorem vd_step (s : ByteArray) (k : Nat) (h : k < s.size) : vd s k = if (Utf8.decode s k).1 = 65533 ∧ (Utf8.decode s k).2 = 1 then false else vd s (k + (Utf8.decode s k).2) := by
  unfold vd
  have hne : s.data.toList.drop k ≠ [] := by
    intro e
    have := congrArg List.length e
    simp at this
    omega
  rw [Lib.validD_step _ hne, Lib.decodeL_drop, List.drop_drop]
theorem vd_runes (s : ByteArray) : ∀ (f k : Nat), s.size - k ≤ f → vd s k = false → runes s k = false
  | 0, k, hf, h => by
    have e : s.data.toList.drop k = [] := List.drop_of_length_le (by simp; omega)
    unfold vd at h
    rw [e] at h
    cases h
  | f + 1, k, hf, h => by
    by_cases hk : k < s.size
    · have hp := decode_pos s k
      rw [vd_step s k hk] at h
      by_cases hb : badRune (Utf8.decode s k) = true
      · exact runes_bad hk hb
      · rw [Bool.not_eq_true] at hb
        rw [runes_good hk hb]
        split at h
        · rename_i hx
          obtain ⟨h1, h2⟩ := hx
          simp [badRune, h1, h2] at hb
        · exact vd_runes s f _ (by omega) h
    · have e : s.data.toList.drop k = [] := List.drop_of_length_le (by simp; omega)
      unfold vd at h
      rw [e] at h
      cases h
theorem vd_next {s : ByteArray} {k : Nat} (h : k < s.size) (hv : vd s k = true) : vd s (k + (Utf8.decode s k).2) = true ∧ (badRune (Utf8.decode s k) = decide ((Utf8.decode s k).1 < 32 ∧ (Utf8.decode s k).1 ≠ 9)) := by
  rw [vd_step s k h] at hv
  split at hv
  · cases hv
  · rename_i hx
    refine ⟨hv, ?_⟩
    unfold badRune
    rw [Bool.eq_iff_iff]
    simp only [Bool.or_eq_true, Bool.and_eq_true, beq_iff_eq, decide_eq_true_eq, Bool.not_eq_true', beq_eq_false_iff_ne]
    constructor
    · rintro (h1 | h1)
      · exact absurd h1 hx
      · exact h1
    · exact fun h1 => .inr h1

theorem valid_any (s : ByteArray) (w : World) (hs : s.size ≤ 9223372036854775807) (hT : Tabs w) :
    Calls Tryz.prog 118 #[.string s] w fun e w' => e = .returned (.bool (vd s 0)) ∧ Below w.heap.size w w' :=
  Any.utf8_ValidString Tryz.lays196 s w hs hT

set_option maxRecDepth 100000 in
theorem lright_any (s : ByteArray) (w : World) (hs : s.size ≤ 9223372036854775807) (hT : Tabs w) :
    Calls Tryz.prog 96 #[.string s] w fun e w' => e = .returned (.bool (lineB s)) ∧ Below w.heap.size w w' := by
  have HV := Lib.hid (valid_any s w hs hT)
  clear hT
  by_cases h2 : 200 < s.size
  · have hr : lineB s = false := by simp [lineB]; omega
    rw [hr]
    go_enter Tryz.func96, Tryz.ntmps96
    go_wp2
    go_ret
    exact ⟨rfl, Below.refl _ _⟩
  · have hr : Hid (lineB s = runes s 0) := by show _ = _; simp [lineB]; omega
    cases hv : vd s 0 with
    | false =>
      have hno : Hid (lineB s = false) := by show _ = _; rw [hr.out]; exact vd_runes s s.size 0 (by omega) hv
      rw [hv] at HV
      clear hr hv
      go_enter Tryz.func96, Tryz.ntmps96
      go_wp2_with (go_at_call 118; refine HV.out.mono ?_; rintro e w1 ⟨rfl, hb⟩)
      go_ret
      rw [hno.out]
      exact ⟨rfl, hb⟩
    | true =>
      rw [hv] at HV
      have HD := Lib.hid hv
      clear hv
      go_enter Tryz.func96, Tryz.ntmps96
      go_wp2_with (go_at_call 118; refine HV.out.mono ?_; rintro e w1 ⟨rfl, hb⟩)
      have hk0 : (w1.iter s 0).heap[w1.heap.size]? = some (.stringIter s 0) := World.iter_heap w1 s 0
      have hb0 : Below w.heap.size w (w1.iter s 0) := hb.alloc hb.size _
      have hB := hb.size
      go_loopw [4] (fun _ wr => ∃ pos : Nat, wr.heap[w1.heap.size]? = some (.stringIter s pos) ∧ Hid (vd s pos = true) ∧ Hid (runes s 0 = runes s pos) ∧ Below w.heap.size w wr) (fun _ wr => s.size - wr.iterPos w1.heap.size)
      case atStart => exact ⟨0, hk0, HD.out, rfl, hb0⟩
      case round =>
        obtain ⟨pos, hk, hvd, heq, hbr⟩ := hrel
        have hmu : wr.iterPos w1.heap.size = pos := by simp [World.iterPos, hk]
        clear hk0 hb0 HD
        by_cases hp : pos < s.size
        · have hnext : ∀ ty, (Instr.next (.pointer (some ⟨w1.heap.size, 0, none⟩)) true ty).run Tryz.prog wr = _ := fun ty => Lib.run_next_any_at wr w1.heap.size s pos ty hk hp
          have hk1 := Lib.iterAt_heap wr w1.heap.size s pos (pos + (Utf8.decode s pos).2) hk
          have hb1 : Below w.heap.size w (wr.iterAt w1.heap.size s (pos + (Utf8.decode s pos).2)) := Lib.below_iterAt hbr hB s _
          obtain ⟨hv1, hbad⟩ := vd_next hp hvd.out
          have hwp := decode_pos s pos
          have hrl := decode_le s pos
          have hgood := runes_good (s := s) (i := pos) hp
          have hfalse := runes_bad (s := s) (i := pos) hp
          by_cases hx : (Utf8.decode s pos).1 < 32 ∧ (Utf8.decode s pos).1 ≠ 9
          · have hno : Hid (lineB s = false) := by
              show _ = _
              rw [hr.out, heq.out]
              exact hfalse (by rw [hbad, decide_eq_true_eq]; exact hx)
            obtain ⟨x1, x2⟩ := hx
            have q1 : ((Utf8.decode s pos).1 : Int) < 32 := by omega
            have q2 : (((Utf8.decode s pos).1 : Int) != 9) = true := by simp; omega
            clear hbad hgood hfalse heq hvd
            generalize Utf8.decode s pos = d at *
            go_wp2
            go_ret
            rw [hno.out]
            exact ⟨rfl, hb1⟩
          · have hok : Hid (runes s 0 = runes s (pos + (Utf8.decode s pos).2)) := by
              show _ = _
              rw [heq.out]
              exact hgood (by rw [hbad, decide_eq_false_iff_not]; exact hx)
            have HV1 := Lib.hid hv1
            have hk2 := hk1
            clear hbad hgood hfalse heq hvd hv1
            generalize Utf8.decode s pos = d at *
            by_cases h9 : d.1 = 9
            · have q1 : ((d.1 : Int) != 9) = false := by rw [h9]; rfl
              have q2 : ((d.1 : Int) < 32) := by omega
              clear h9 hx
              go_wp2
              go_roundw
              case rel => exact ⟨pos + d.2, hk2, HV1.out, hok, hb1⟩
              case measure =>
                have e : (wr.iterAt w1.heap.size s (pos + d.2)).iterPos w1.heap.size = pos + d.2 := by simp [World.iterPos, hk2]
                rw [e, hmu]; omega
            · have q2 : ¬ ((d.1 : Int) < 32) := by omega
              clear h9 hx
              go_wp2
              go_roundw
              case rel => exact ⟨pos + d.2, hk2, HV1.out, hok, hb1⟩
              case measure =>
                have e : (wr.iterAt w1.heap.size s (pos + d.2)).iterPos w1.heap.size = pos + d.2 := by simp [World.iterPos, hk2]
                rw [e, hmu]; omega
        · have hnext : ∀ ty, (Instr.next (.pointer (some ⟨w1.heap.size, 0, none⟩)) true ty).run Tryz.prog wr = _ := fun ty => Lib.run_next_end_at wr w1.heap.size s pos ty hk hp
          have hfin : Hid (lineB s = true) := by show _ = _; rw [hr.out, heq.out]; exact runes_end hp
          clear heq hvd
          go_wp2
          go_ret
          rw [hfin.out]
          exact ⟨rfl, hbr⟩

set_option maxRecDepth 100000 in
theorem lcheck_any (A : Option Addr) (ss : List ByteArray) (cap : Nat) (w : World) (hs : Strs w w.heap.size A ss) (hn : ss.length ≤ 9223372036854775807) (hz : ∀ s ∈ ss, s.size ≤ 9223372036854775807) (hT : Tabs w) :
    Calls Tryz.prog 59 #[.slice A ss.length cap] w fun e w' => e = .returned (.int .i64 (checkN ss)) ∧ Below w.heap.size w w' := by
  by_cases h2 : 2000 < ss.length
  · rw [checkN_big h2]
    go_enter Tryz.func59, Tryz.ntmps59
    go_wp2
    go_ret
    exact ⟨rfl, Below.refl _ _⟩
  · have HT := Lib.hid hT
    have HS := Lib.hid hs
    have HZ := Lib.hid hz
    clear hT hs hz
    go_enter Tryz.func59, Tryz.ntmps59
    go_wp2
    go_loopw [10] (fun i wr => ∃ k : Nat, k ≤ ss.length ∧ i = .int .i64 (k : Int) ∧ Hid (∀ j (hj : j < ss.length), j < k → lineB ss[j] = true) ∧ Below w.heap.size w wr) (fun i _ => ss.length - (intOf i).toNat)
    case atStart => exact ⟨0, Nat.zero_le _, rfl, fun j _ h => absurd h (by omega), Below.refl _ _⟩
    case round =>
      obtain ⟨k, hk, rfl, hall, hb⟩ := hrel
      by_cases hlt : k < ss.length
      · obtain ⟨g, off, rfl, hg, hc⟩ := (HS.out.below hb).at_ hlt
        have hl := Lib.hid (lright_any ss[k] wr (HZ.out _ (List.getElem_mem _)) (HT.out.on hb))
        cases hx : lineB ss[k] with
        | true =>
          have hall2 : Hid (∀ j (hj : j < ss.length), j < k + 1 → lineB ss[j] = true) := by
            intro j hj hjk
            by_cases h : j = k
            · subst h; exact hx
            · exact hall.out j hj (by omega)
          rw [hx] at hl
          generalize ss[k] = s at *
          clear hall hx
          go_wp2_with (go_at_call 96; refine hl.out.mono ?_; rintro e w1 ⟨rfl, hb1⟩)
          have hb2 := hb.trans (hb1.mono hb.size)
          go_roundw
          case rel => exact ⟨k + 1, by omega, by go_num, hall2, hb2⟩
          case measure => simp [intOf]; omega
        | false =>
          have hno : Hid (checkN ss = 6) := checkN_bad h2 hlt hx
          rw [hx] at hl
          generalize ss[k] = s at *
          clear hall hx
          go_wp2_with (go_at_call 96; refine hl.out.mono ?_; rintro e w1 ⟨rfl, hb1⟩)
          go_ret
          rw [hno.out]
          exact ⟨rfl, hb.trans (hb1.mono hb.size)⟩
      · have hk2 : k = ss.length := by omega
        subst hk2
        have hyes : Hid (checkN ss = 0) := checkN_ok h2 fun j hj => hall.out j hj hj
        clear hall
        go_wp2
        go_ret
        rw [hyes.out]
        exact ⟨rfl, hb⟩
end Go.Proofs.YtaepfahpbnpeiaaGreatDoor
