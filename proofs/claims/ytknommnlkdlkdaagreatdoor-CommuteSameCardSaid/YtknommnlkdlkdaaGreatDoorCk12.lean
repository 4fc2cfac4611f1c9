/- lines.Right and lines.Check. Words for a step's cells. Package prim's bare, formed. -/
import Derived.Test.YtknommnlkdlkdaaGreatDoorCk11
import Derived.Lib.ValidLaws
import Derived.Lib.TrimUEq
import Derived.Lib.OthersKept
import Derived.Shelf.Unicode.ValidAny
import Derived.Test.YtknommnlkdlkdaaGreatDoorCk05
import Derived.Test.YtknommnlkdlkdaaGreatDoorCk04
import Derived.Test.YtknommnlkdlkdaaGreatDoorCk07
namespace Go.Proofs.YtknommnlkdlkdaaGreatDoor
open Go.RowKit
set_option linter.unusedVariables false

/-- Is what stands from byte k on valid UTF-8? -/
def vd (s : ByteArray) (k : Nat) : Bool := Lib.validD (s.data.toList.drop k)
theorem vd_step (s : ByteArray) (k : Nat) (h : k < s.size) : vd s k = if (Utf8.decode s k).1 = 65533 ∧ (Utf8.decode s k).2 = 1 then false else vd s (k + (Utf8.decode s k).2) := by
  unfold vd
  have hne : s.data.toList.drop k ≠ [] := by
    intro e
    have := congrArg List.length e
    simp at this
    omega
  rw [Lib.validD_step _ hne, Lib.decodeL_drop, List.drop_drop]
theorem vd_runes (s : ByteArray) : ∀ (f k : Nat), s.size - k ≤ f → vd s k = false → runes s k = false
  | 0, k, hf, h => by
    have e : s.data.toList.drop k = [] := List.drop_of_length_le (by simp; omega)
    unfold vd at h
    rw [e] at h
    cases h
  | f + 1, k, hf, h => by
    by_cases hk : k < s.size
    · have hp := decode_pos s k
      rw [vd_step s k hk] at h
      by_cases hb : badRune (Utf8.decode s k) = true
      · exact runes_bad hk hb
      · rw [Bool.not_eq_true] at hb
        rw [runes_good hk hb]
        split at h
        · rename_i hx
          obtain ⟨h1, h2⟩ := hx
          simp [badRune, h1, h2] at hb
        · exact vd_runes s f _ (by omega) h
    · have e : s.data.toList.drop k = [] := List.drop_of_length_le (by simp; omega)
      unfold vd at h
      rw [e] at h
      cases h
theorem vd_next {s : ByteArray} {k : Nat} (h : k < s.size) (hv : vd s k = true) : vd s (k + (Utf8.decode s k).2) = true ∧ (badRune (Utf8.decode s k) = decide ((Utf8.decode s k).1 < 32 ∧ (Utf8.decode s k).1 ≠ 9)) := by
  rw [vd_step s k h] at hv
  split at hv
  · cases hv
  · rename_i hx
    refine ⟨hv, ?_⟩
    unfold badRune
    rw [Bool.eq_iff_iff]
    simp only [Bool.or_eq_true, Bool.and_eq_true, beq_iff_eq, decide_eq_true_eq, Bool.not_eq_true', beq_eq_false_iff_ne]
    constructor
    · rintro (h1 | h1)
      · exact absurd h1 hx
      · exact h1
    · exact fun h1 => .inr h1

theorem valid_any (s : ByteArray) (w : World) (hs : s.size ≤ 9223372036854775807) (hT : Tabs w) :
    Calls Tryz.prog 97 #[.string s] w fun e w' => e = .returned (.bool (vd s 0)) ∧ Below w.heap.size w w' :=
  Any.utf8_ValidString Tryz.lays196 s w hs hT

set_option maxRecDepth 100000 in
theorem lright_any (s : ByteArray) (w : World) (hs : s.size ≤ 9223372036854775807) (hT : Tabs w) :
    Calls Tryz.prog 66 #[.string s] w fun e w' => e = .returned (.bool (lineB s)) ∧ Below w.heap.size w w' := by
  have HV := Lib.hid (valid_any s w hs hT)
  clear hT
  by_cases h2 : 200 < s.size
  · have hr : lineB s = false := by simp [lineB]; omega
    rw [hr]
    go_enter Tryz.func66, Tryz.ntmps66
    go_wp2
    go_ret
    exact ⟨rfl, Below.refl _ _⟩
  · have hr : Hid (lineB s = runes s 0) := by show _ = _; simp [lineB]; omega
    cases hv : vd s 0 with
    | false =>
      have hno : Hid (lineB s = false) := by show _ = _; rw [hr.out]; exact vd_runes s s.size 0 (by omega) hv
      rw [hv] at HV
      clear hr hv
      go_enter Tryz.func66, Tryz.ntmps66
      go_wp2_with (go_at_call 97; refine HV.out.mono ?_; rintro e w1 ⟨rfl, hb⟩)
      go_ret
      rw [hno.out]
      exact ⟨rfl, hb⟩
    | true =>
      rw [hv] at HV
      have HD := Lib.hid hv
      clear hv
      go_enter Tryz.func66, Tryz.ntmps66
      go_wp2_with (go_at_call 97; refine HV.out.mono ?_; rintro e w1 ⟨rfl, hb⟩)
      have hk0 : (w1.iter s 0).heap[w1.heap.size]? = some (.stringIter s 0) := World.iter_heap w1 s 0
      have hb0 : Below w.heap.size w (w1.iter s 0) := hb.alloc hb.size _
      have hB := hb.size
      go_loopw [4] (fun _ wr => ∃ pos : Nat, wr.heap[w1.heap.size]? = some (.stringIter s pos) ∧ Hid (vd s pos = true) ∧ Hid (runes s 0 = runes s pos) ∧ Below w.heap.size w wr) (fun _ wr => s.size - wr.iterPos w1.heap.size)
      case atStart => exact ⟨0, hk0, HD.out, rfl, hb0⟩
      case round =>
        obtain ⟨pos, hk, hvd, heq, hbr⟩ := hrel
        have hmu : wr.iterPos w1.heap.size = pos := by simp [World.iterPos, hk]
        clear hk0 hb0 HD
        by_cases hp : pos < s.size
        · have hnext : ∀ ty, (Instr.next (.pointer (some ⟨w1.heap.size, 0, none⟩)) true ty).run Tryz.prog wr = _ := fun ty => Lib.run_next_any_at wr w1.heap.size s pos ty hk hp
          have hk1 := Lib.iterAt_heap wr w1.heap.size s pos (pos + (Utf8.decode s pos).2) hk
          have hb1 : Below w.heap.size w (wr.iterAt w1.heap.size s (pos + (Utf8.decode s pos).2)) := Lib.below_iterAt hbr hB s _
          obtain ⟨hv1, hbad⟩ := vd_next hp hvd.out
          have hwp := decode_pos s pos
          have hrl := decode_le s pos
          have hgood := runes_good (s := s) (i := pos) hp
          have hfalse := runes_bad (s := s) (i := pos) hp
          by_cases hx : (Utf8.decode s pos).1 < 32 ∧ (Utf8.decode s pos).1 ≠ 9
          · have hno : Hid (lineB s = false) := by
              show _ = _
              rw [hr.out, heq.out]
              exact hfalse (by rw [hbad, decide_eq_true_eq]; exact hx)
            obtain ⟨x1, x2⟩ := hx
            have q1 : ((Utf8.decode s pos).1 : Int) < 32 := by omega
            have q2 : (((Utf8.decode s pos).1 : Int) != 9) = true := by simp; omega
            clear hbad hgood hfalse heq hvd
            generalize Utf8.decode s pos = d at *
            go_wp2
            go_ret
            rw [hno.out]
            exact ⟨rfl, hb1⟩
          · have hok : Hid (runes s 0 = runes s (pos + (Utf8.decode s pos).2)) := by
              show _ = _
              rw [heq.out]
              exact hgood (by rw [hbad, decide_eq_false_iff_not]; exact hx)
            have HV1 := Lib.hid hv1
            have hk2 := hk1
            clear hbad hgood hfalse heq hvd hv1
            generalize Utf8.decode s pos = d at *
            by_cases h9 : d.1 = 9
            · have q1 : ((d.1 : Int) != 9) = false := by rw [h9]; rfl
              have q2 : ((d.1 : Int) < 32) := by omega
              clear h9 hx
              go_wp2
              go_roundw
              case rel => exact ⟨pos + d.2, hk2, HV1.out, hok, hb1⟩
              case measure =>
                have e : (wr.iterAt w1.heap.size s (pos + d.2)).iterPos w1.heap.size = pos + d.2 := by simp [World.iterPos, hk2]
                rw [e, hmu]; omega
            · have q2 : ¬ ((d.1 : Int) < 32) := by omega
              clear h9 hx
              go_wp2
              go_roundw
              case rel => exact ⟨pos + d.2, hk2, HV1.out, hok, hb1⟩
              case measure =>
                have e : (wr.iterAt w1.heap.size s (pos + d.2)).iterPos w1.heap.size = pos + d.2 := by simp [World.iterPos, hk2]
                rw [e, hmu]; omega
        · have hnext : ∀ ty, (Instr.next (.pointer (some ⟨w1.heap.size, 0, none⟩)) true ty).run Tryz.prog wr = _ := fun ty => Lib.run_next_end_at wr w1.heap.size s pos ty hk hp
          have hfin : Hid (lineB s = true) := by show _ = _; rw [hr.out, heq.out]; exact runes_end hp
          clear heq hvd
          go_wp2
          go_ret
          rw [hfin.out]
          exact ⟨rfl, hbr⟩

set_option maxRecDepth 100000 in
theorem lcheck_any (A : Option Addr) (ss : List ByteArray) (cap : Nat) (w : World) (hs : Strs w w.heap.size A ss) (hn : ss.length ≤ 9223372036854775807) (hz : ∀ s ∈ ss, s.size ≤ 9223372036854775807) (hT : Tabs w) :
    Calls Tryz.prog 35 #[.slice A ss.length cap] w fun e w' => e = .returned (.int .i64 (checkN ss)) ∧ Below w.heap.size w w' := by
  by_cases h2 : 2000 < ss.length
  · rw [checkN_big h2]
    go_enter Tryz.func35, Tryz.ntmps35
    go_wp2
    go_ret
    exact ⟨rfl, Below.refl _ _⟩
  · have HT := Lib.hid hT
    have HS := Lib.hid hs
    have HZ := Lib.hid hz
    clear hT hs hz
    go_enter Tryz.func35, Tryz.ntmps35
    go_wp2
    go_loopw [10] (fun i wr => ∃ k : Nat, k ≤ ss.length ∧ i = .int .i64 (k : Int) ∧ Hid (∀ j (hj : j < ss.length), j < k → lineB ss[j] = true) ∧ Below w.heap.size w wr) (fun i _ => ss.length - (intOf i).toNat)
    case atStart => exact ⟨0, Nat.zero_le _, rfl, fun j _ h => absurd h (by omega), Below.refl _ _⟩
    case round =>
      obtain ⟨k, hk, rfl, hall, hb⟩ := hrel
      by_cases hlt : k < ss.length
      · obtain ⟨g, off, rfl, hg, hc⟩ := (HS.out.below hb).at_ hlt
        have hl := Lib.hid (lright_any ss[k] wr (HZ.out _ (List.getElem_mem _)) (HT.out.on hb))
        cases hx : lineB ss[k] with
        | true =>
          have hall2 : Hid (∀ j (hj : j < ss.length), j < k + 1 → lineB ss[j] = true) := by
            intro j hj hjk
            by_cases h : j = k
            · subst h; exact hx
            · exact hall.out j hj (by omega)
          rw [hx] at hl
          generalize ss[k] = s at *
          clear hall hx
          go_wp2_with (go_at_call 66; refine hl.out.mono ?_; rintro e w1 ⟨rfl, hb1⟩)
          have hb2 := hb.trans (hb1.mono hb.size)
          go_roundw
          case rel => exact ⟨k + 1, by omega, by go_num, hall2, hb2⟩
          case measure => simp [intOf]; omega
        | false =>
          have hno : Hid (checkN ss = 6) := checkN_bad h2 hlt hx
          rw [hx] at hl
          generalize ss[k] = s at *
          clear hall hx
          go_wp2_with (go_at_call 66; refine hl.out.mono ?_; rintro e w1 ⟨rfl, hb1⟩)
          go_ret
          rw [hno.out]
          exact ⟨rfl, hb.trans (hb1.mono hb.size)⟩
      · have hk2 : k = ss.length := by omega
        subst hk2
        have hyes : Hid (checkN ss = 0) := checkN_ok h2 fun j hj => hall.out j hj hj
        clear hall
        go_wp2
        go_ret
        rw [hyes.out]
        exact ⟨rfl, hb⟩
end Go.Proofs.YtknommnlkdlkdaaGreatDoor
namespace Go.Proofs.YtknommnlkdlkdaaGreatDoor
open Go.RowKit
set_option linter.unusedVariables false

/-- A step's cells in block G, plainly. -/
structure PAt (w : World) (G : Nat) (kind : Int) (p q : ByteArray) (at_ : Int) (a1 : Option Addr) (n1 c1 : Nat) (a2 : Option Addr) (n2 c2 : Nat) : Prop where
  h : w.heap[G]? = some (.cells #[.int .i64 kind, .string p, .string q, .int .i64 at_, .slice a1 n1 c1, .slice a2 n2 c2] 25 (0, 0))
section
variable {w w' : World} {G : Nat} {kind : Int} {p q : ByteArray} {at_ : Int} {a1 : Option Addr} {n1 c1 : Nat} {a2 : Option Addr} {n2 c2 : Nat}
theorem PAt.k0 (k : PAt w G kind p q at_ a1 n1 c1 a2 n2 c2) : w.cell? ⟨G, 0, none⟩ = some (.int .i64 kind) := by simp [World.cell?, k.h]
theorem PAt.k1 (k : PAt w G kind p q at_ a1 n1 c1 a2 n2 c2) : w.cell? ⟨G, 1, none⟩ = some (.string p) := by simp [World.cell?, k.h]
theorem PAt.k2 (k : PAt w G kind p q at_ a1 n1 c1 a2 n2 c2) : w.cell? ⟨G, 2, none⟩ = some (.string q) := by simp [World.cell?, k.h]
theorem PAt.k3 (k : PAt w G kind p q at_ a1 n1 c1 a2 n2 c2) : w.cell? ⟨G, 3, none⟩ = some (.int .i64 at_) := by simp [World.cell?, k.h]
theorem PAt.k4 (k : PAt w G kind p q at_ a1 n1 c1 a2 n2 c2) : w.cell? ⟨G, 4, none⟩ = some (.slice a1 n1 c1) := by simp [World.cell?, k.h]
theorem PAt.k5 (k : PAt w G kind p q at_ a1 n1 c1 a2 n2 c2) : w.cell? ⟨G, 5, none⟩ = some (.slice a2 n2 c2) := by simp [World.cell?, k.h]
theorem PAt.lt (k : PAt w G kind p q at_ a1 n1 c1 a2 n2 c2) : G < w.heap.size := (Array.getElem?_eq_some_iff.1 k.h).1
theorem PAt.on (k : PAt w G kind p q at_ a1 n1 c1 a2 n2 c2) (hb : Below w.heap.size w w') : PAt w' G kind p q at_ a1 n1 c1 a2 n2 c2 := ⟨(hb.block G k.lt).trans k.h⟩
end
theorem PAt.new_ (w : World) (kind : Int) (p q : ByteArray) (at_ : Int) (a1 : Option Addr) (n1 c1 : Nat) (a2 : Option Addr) (n2 c2 : Nat) : PAt (w.alloc (.cells #[.int .i64 kind, .string p, .string q, .int .i64 at_, .slice a1 n1 c1, .slice a2 n2 c2] 25)) w.heap.size kind p q at_ a1 n1 c1 a2 n2 c2 := ⟨heap_alloc_new w _⟩
theorem q_empty {q : ByteArray} (h : q = ⟨#[]⟩) : (q.toList == []) = true := by rw [h, toList_eq]; rfl
end Go.Proofs.YtknommnlkdlkdaaGreatDoor
namespace Go.Proofs.YtknommnlkdlkdaaGreatDoor
open Go.RowKit
set_option linter.unusedVariables false

set_option maxHeartbeats 20000000 in
set_option maxRecDepth 100000 in
theorem bare_any (kind : Int) (p q : ByteArray) (at_ : Int) (a1 : Option Addr) (n1 c1 : Nat) (a2 : Option Addr) (n2 c2 : Nat) (w : World) (r : Bool) (hr : decide (at_ = 0 ∧ n1 = 0 ∧ n2 = 0) = r) :
    Calls Tryz.prog 82 #[.agg #[.int .i64 kind, .string p, .string q, .int .i64 at_, .slice a1 n1 c1, .slice a2 n2 c2]] w fun e w' => e = .returned (.bool r) ∧ Below w.heap.size w w' := by
  by_cases ha : at_ = 0
  · subst ha
    by_cases hn1 : n1 = 0
    · subst hn1
      by_cases hn2 : n2 = 0
      · subst hn2
        have hal : Below w.heap.size w (w.alloc (.cells #[.int .i64 kind, .string p, .string q, .int .i64 0, .slice a1 0 c1, .slice a2 0 c2] 25)) := (Below.refl _ _).alloc (Nat.le_refl _) _
        have HP : Hid (PAt (w.alloc (.cells #[.int .i64 kind, .string p, .string q, .int .i64 0, .slice a1 0 c1, .slice a2 0 c2] 25)) w.heap.size kind p q 0 a1 0 c1 a2 0 c2) := PAt.new_ w kind p q 0 a1 0 c1 a2 0 c2
        have HA := Lib.hid hal
        clear hal
        have b0 := HP.out.k0
        have b1 := HP.out.k1
        have b2 := HP.out.k2
        have b3 := HP.out.k3
        have b4 := HP.out.k4
        have b5 := HP.out.k5
        simp at hr
        subst hr
        go_enter Tryz.func82, Tryz.ntmps82
        go_wp2
        go_ret
        exact ⟨rfl, HA.out⟩
      · have hn22 : (((n2 : Nat) : Int) == 0) = false := by simpa using hn2
        have hal : Below w.heap.size w (w.alloc (.cells #[.int .i64 kind, .string p, .string q, .int .i64 0, .slice a1 0 c1, .slice a2 n2 c2] 25)) := (Below.refl _ _).alloc (Nat.le_refl _) _
        have HP : Hid (PAt (w.alloc (.cells #[.int .i64 kind, .string p, .string q, .int .i64 0, .slice a1 0 c1, .slice a2 n2 c2] 25)) w.heap.size kind p q 0 a1 0 c1 a2 n2 c2) := PAt.new_ w kind p q 0 a1 0 c1 a2 n2 c2
        have HA := Lib.hid hal
        clear hal
        have b0 := HP.out.k0
        have b1 := HP.out.k1
        have b2 := HP.out.k2
        have b3 := HP.out.k3
        have b4 := HP.out.k4
        have b5 := HP.out.k5
        simp [hn2] at hr
        subst hr
        go_enter Tryz.func82, Tryz.ntmps82
        go_wp2
        go_ret
        exact ⟨rfl, HA.out⟩
    · have hn12 : (((n1 : Nat) : Int) == 0) = false := by simpa using hn1
      have hal : Below w.heap.size w (w.alloc (.cells #[.int .i64 kind, .string p, .string q, .int .i64 0, .slice a1 n1 c1, .slice a2 n2 c2] 25)) := (Below.refl _ _).alloc (Nat.le_refl _) _
      have HP : Hid (PAt (w.alloc (.cells #[.int .i64 kind, .string p, .string q, .int .i64 0, .slice a1 n1 c1, .slice a2 n2 c2] 25)) w.heap.size kind p q 0 a1 n1 c1 a2 n2 c2) := PAt.new_ w kind p q 0 a1 n1 c1 a2 n2 c2
      have HA := Lib.hid hal
      clear hal
      have b0 := HP.out.k0
      have b1 := HP.out.k1
      have b2 := HP.out.k2
      have b3 := HP.out.k3
      have b4 := HP.out.k4
      have b5 := HP.out.k5
      simp [hn1] at hr
      subst hr
      go_enter Tryz.func82, Tryz.ntmps82
      go_wp2
      go_ret
      exact ⟨rfl, HA.out⟩
  · have ha2 : (at_ == 0) = false := by simpa using ha
    have hal : Below w.heap.size w (w.alloc (.cells #[.int .i64 kind, .string p, .string q, .int .i64 at_, .slice a1 n1 c1, .slice a2 n2 c2] 25)) := (Below.refl _ _).alloc (Nat.le_refl _) _
    have HP : Hid (PAt (w.alloc (.cells #[.int .i64 kind, .string p, .string q, .int .i64 at_, .slice a1 n1 c1, .slice a2 n2 c2] 25)) w.heap.size kind p q at_ a1 n1 c1 a2 n2 c2) := PAt.new_ w kind p q at_ a1 n1 c1 a2 n2 c2
    have HA := Lib.hid hal
    clear hal
    have b0 := HP.out.k0
    have b1 := HP.out.k1
    have b2 := HP.out.k2
    have b3 := HP.out.k3
    have b4 := HP.out.k4
    have b5 := HP.out.k5
    simp [ha] at hr
    subst hr
    go_enter Tryz.func82, Tryz.ntmps82
    go_wp2
    go_ret
    exact ⟨rfl, HA.out⟩
/-- Has a step a kind, and no part that this kind has not? -/
def formB (kind : Int) (q : ByteArray) (at_ : Int) (n1 n2 : Nat) : Bool := decide ((1 ≤ kind ∧ kind ≤ 6) ∧ (kind ≠ 5 → q = ⟨#[]⟩) ∧ (kind ≠ 6 → at_ = 0 ∧ n1 = 0 ∧ n2 = 0))
set_option maxHeartbeats 20000000 in
set_option maxRecDepth 100000 in
theorem formed_any (kind : Int) (p q : ByteArray) (at_ : Int) (a1 : Option Addr) (n1 c1 : Nat) (a2 : Option Addr) (n2 c2 : Nat) (w : World) (r : Bool) (hr : formB kind q at_ n1 n2 = r) :
    Calls Tryz.prog 47 #[.agg #[.int .i64 kind, .string p, .string q, .int .i64 at_, .slice a1 n1 c1, .slice a2 n2 c2]] w fun e w' => e = .returned (.bool r) ∧ Below w.heap.size w w' := by
  have CB := Lib.hid (fun (b : Bool) (hb : decide (at_ = 0 ∧ n1 = 0 ∧ n2 = 0) = b) W => bare_any kind p q at_ a1 n1 c1 a2 n2 c2 W b hb)
  have hal : Below w.heap.size w (w.alloc (.cells #[.int .i64 kind, .string p, .string q, .int .i64 at_, .slice a1 n1 c1, .slice a2 n2 c2] 25)) := (Below.refl _ _).alloc (Nat.le_refl _) _
  have HP : Hid (PAt (w.alloc (.cells #[.int .i64 kind, .string p, .string q, .int .i64 at_, .slice a1 n1 c1, .slice a2 n2 c2] 25)) w.heap.size kind p q at_ a1 n1 c1 a2 n2 c2) := PAt.new_ w kind p q at_ a1 n1 c1 a2 n2 c2
  have HA := Lib.hid hal
  clear hal
  have b0 := HP.out.k0
  have b1 := HP.out.k1
  have b2 := HP.out.k2
  have b3 := HP.out.k3
  have b4 := HP.out.k4
  have b5 := HP.out.k5
  unfold formB at hr
  by_cases hk1 : kind < 1
  · have e1 : ∀ j : Int, 1 ≤ j → (kind == j) = false := fun j hj => by simp; omega
    have e11 := e1 1 (by decide)
    have e12 := e1 2 (by decide)
    have e13 := e1 3 (by decide)
    have e14 := e1 4 (by decide)
    have e15 := e1 5 (by decide)
    have e16 := e1 6 (by decide)
    have hk2 : ¬ 1 ≤ kind := by omega
    clear CB e1
    simp [hk2] at hr
    subst hr
    go_enter Tryz.func47, Tryz.ntmps47
    go_wp2
    go_ret
    exact ⟨rfl, HA.out⟩
  · by_cases hk6 : 6 < kind
    · have e1 : ∀ j : Int, j ≤ 6 → (kind == j) = false := fun j hj => by simp; omega
      have e11 := e1 1 (by decide)
      have e12 := e1 2 (by decide)
      have e13 := e1 3 (by decide)
      have e14 := e1 4 (by decide)
      have e15 := e1 5 (by decide)
      have e16 := e1 6 (by decide)
      have hk2 : ¬ kind ≤ 6 := by omega
      clear CB e1
      simp [hk2] at hr
      subst hr
      go_enter Tryz.func47, Tryz.ntmps47
      go_wp2
      go_ret
      exact ⟨rfl, HA.out⟩
    · have hk : (kind = 1 ∨ kind = 2 ∨ kind = 3 ∨ kind = 4) ∨ kind = 5 ∨ kind = 6 := by omega
      clear hk1 hk6
      rcases hk with hk | rfl | rfl
      · by_cases hq : q = ⟨#[]⟩
        · have hq2 := q_empty hq
          rcases hk with rfl | rfl | rfl | rfl
          all_goals
            obtain ⟨b, hb⟩ : ∃ b, decide (at_ = 0 ∧ n1 = 0 ∧ n2 = 0) = b := ⟨_, rfl⟩
            have CB1 := Lib.hid (CB.out b hb)
            have hrb : r = b := by rw [← hr, ← hb]; simp [hq]
            subst hrb
            clear hr hb CB hq
            go_enter Tryz.func47, Tryz.ntmps47
            go_wp2_with fail
            refine (CB1.out _).mono ?_
            rintro e w1 ⟨rfl, hb⟩
            have HB1 := Lib.hid hb
            clear hb b0 b1 b2 b3 b4 b5
            have b0 := (HP.out.on HB1.out).k0
            have b1 := (HP.out.on HB1.out).k1
            have b2 := (HP.out.on HB1.out).k2
            have b3 := (HP.out.on HB1.out).k3
            have b4 := (HP.out.on HB1.out).k4
            have b5 := (HP.out.on HB1.out).k5
            go_wp2
            go_ret
            exact ⟨rfl, HA.out.trans (HB1.out.mono HA.out.size)⟩
        · have hq2 : (q.toList == []) = false := str_ne_empty hq
          clear CB
          rcases hk with rfl | rfl | rfl | rfl
          all_goals
            simp [hq] at hr
            subst hr
            clear hq
            go_enter Tryz.func47, Tryz.ntmps47
            go_wp2
            go_ret
            exact ⟨rfl, HA.out⟩
      · obtain ⟨b, hb⟩ : ∃ b, decide (at_ = 0 ∧ n1 = 0 ∧ n2 = 0) = b := ⟨_, rfl⟩
        have CB1 := Lib.hid (CB.out b hb)
        have hrb : r = b := by rw [← hr, ← hb]; simp 
        subst hrb
        clear hr hb CB
        go_enter Tryz.func47, Tryz.ntmps47
        go_wp2_with fail
        refine (CB1.out _).mono ?_
        rintro e w1 ⟨rfl, hb⟩
        have HB1 := Lib.hid hb
        clear hb b0 b1 b2 b3 b4 b5
        have b0 := (HP.out.on HB1.out).k0
        have b1 := (HP.out.on HB1.out).k1
        have b2 := (HP.out.on HB1.out).k2
        have b3 := (HP.out.on HB1.out).k3
        have b4 := (HP.out.on HB1.out).k4
        have b5 := (HP.out.on HB1.out).k5
        go_wp2
        go_ret
        exact ⟨rfl, HA.out.trans (HB1.out.mono HA.out.size)⟩
      · clear CB
        by_cases hq : q = ⟨#[]⟩
        · have hq2 := q_empty hq
          simp [hq] at hr
          subst hr
          clear hq
          go_enter Tryz.func47, Tryz.ntmps47
          go_wp2
          go_ret
          exact ⟨rfl, HA.out⟩
        · have hq2 : (q.toList == []) = false := str_ne_empty hq
          simp [hq] at hr
          subst hr
          clear hq
          go_enter Tryz.func47, Tryz.ntmps47
          go_wp2
          go_ret
          exact ⟨rfl, HA.out⟩
end Go.Proofs.YtknommnlkdlkdaaGreatDoor
