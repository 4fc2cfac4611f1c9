/- Package diff's Check. The reference's Right, Check, Text, Split, At of layer 3. lines.Right and lines.Check. strings.Split at a slash: what it leaves is what stands between slashes. -/
import Derived.Test.YtempamboacbgiaaGreatDoorCk05
import Derived.Test.YtempamboacbgiaaGreatDoorCk02
import Derived.Test.YtempamboacbgiaaGreatDoorShelf
import Derived.Lib.LaidU8
import Derived.BigQuiet
import Derived.BigRegion
import Derived.Deep.QuietTactic
import Derived.Handy
import Derived.Lib.ValidLaws
import Derived.Lib.TrimUEq
import Derived.Lib.OthersKept
import Derived.Shelf.Unicode.ValidAny
import Derived.Shelf.Strings.Split
import Derived.Test.YtempamboacbgiaaGreatDoorCk01
namespace Go.Proofs.YtempamboacbgiaaGreatDoor
open Go.RowKit
set_option linter.unusedVariables false

set_option maxHeartbeats 1000000 in
set_option maxRecDepth 100000 in
theorem check_any (A : Option Addr) (hs : List Hm) (cap : Nat) (w : World) (hk : Hks w w.heap.size A hs) (hn : hs.length ≤ 1000000) (hsm : Small hs) (er : Int) (her : er = if mayB hs then 0 else 6) :
    Calls Tryz.prog 106 #[.slice A hs.length cap] w fun e w' => e = .returned (.int .i64 er) ∧ Below w.heap.size w w' := by
  have HSM := Lib.hid hsm.2
  have HER := Lib.hid her
  clear hsm her
  have HK := Lib.hid hk
  clear hk
  go_enter Tryz.func106, Tryz.ntmps106
  go_wp2
  go_loopw [7] (fun i wr => ∃ k : Nat, k ≤ hs.length ∧ i = .int .i64 (k : Int) ∧ Hid (mayB hs = mayF (endOf hs k) (hs.drop k)) ∧ Hid (∀ j (hj : j < hs.length), j < k → 0 ≤ hs[j].at_) ∧ Below w.heap.size w wr) (fun i _ => hs.length - (intOf i).toNat)
  case atStart => exact ⟨0, Nat.zero_le _, rfl, by show _ = _; rw [endOf_zero]; rfl, fun j _ h => absurd h (by omega), Below.refl _ _⟩
  case round =>
    obtain ⟨k, hk, rfl, heq, hpos, hb⟩ := hrel
    by_cases hlt : k < hs.length
    · have hK := HK.out.on hb
      obtain ⟨b, off, rfl, hbl, h1, h2, h3⟩ := hK.get hlt
      have ok := hK.ok hs[k] (List.getElem_mem _)
      have sm1 := (HSM.out hs[k] (List.getElem_mem _)).1
      have sm2 := (HSM.out hs[k] (List.getElem_mem _)).2
      have l1 := ok.lo
      have l2 := ok.hi
      have l3 := ok.n1
      have l4 := ok.n2
      by_cases hneg : hs[k].at_ < 0
      · have hfin : Hid (mayB hs = false) := heq.out.trans (mayF_neg hlt hneg)
        clear heq hpos ok
        generalize hs[k].at_ = n at *
        go_wp2
        go_ret
        rw [HER.out, hfin.out]
        exact ⟨rfl, hb.alloc hb.size _⟩
      · by_cases h0 : hs[k].old.length = 0 ∧ hs[k].new.length = 0
        · have hfin : Hid (mayB hs = false) := heq.out.trans (mayF_none hlt h0.1 h0.2)
          obtain ⟨g1, g2⟩ := h0
          rw [g1] at h2
          rw [g2] at h3
          clear heq hpos ok g1 g2 l3 l4
          generalize hs[k].at_ = n at *
          go_wp2
          go_ret
          rw [HER.out, hfin.out]
          exact ⟨rfl, hb.alloc hb.size _⟩
        · by_cases hm1 : hs[k].old.length = 0
          · have q1 : ((hs[k].new.length : Int) == 0) = false := by
              rw [beq_eq_false_iff_ne]
              intro e
              exact h0 ⟨hm1, by omega⟩
            rw [hm1] at h2
            clear hm1
            cases k with
            | zero =>
              have hnew : Hid (mayB hs = mayF (endOf hs 1) (hs.drop 1)) := heq.out.trans (mayF_first hlt (by omega) h0)
              have hpos2 : Hid (∀ j (hj : j < hs.length), j < 1 → 0 ≤ hs[j].at_) := by
                intro j hj hj1
                obtain rfl : j = 0 := by omega
                omega
              clear heq hpos ok h0
              simp only [Nat.zero_mul, Nat.add_zero] at h1 h2 h3
              generalize hs[0].at_ = n at *
              generalize hs[0].old.length = m1 at *
              generalize hs[0].new.length = m2 at *
              go_wp2
              go_quiet (fail)
              go_wp2
              go_roundw
              case rel => exact ⟨1, by omega, by go_num, hnew, hpos2, below_drewN (hb.alloc hb.size _) _⟩
              case measure => simp [intOf]; omega
            | succ j =>
              obtain ⟨b2, off2, e2, _, p1, p2, p3⟩ := hK.get (j := j) (by omega)
              cases e2
              have ok2 := hK.ok hs[j] (List.getElem_mem _)
              have l5 := ok2.hi
              have l6 := ok2.n1
              have l7 := hpos.out j (by omega) (by omega)
              have hpos2 : Hid (∀ i (hi : i < hs.length), i < j + 2 → 0 ≤ hs[i].at_) := by
                intro i hi hij
                by_cases e : i = j + 1
                · subst e; omega
                · exact hpos.out i hi (by omega)
              have hA : Hid (hs[j + 1].at_ ≤ hs[j].at_ + hs[j].old.length → mayB hs = false) := fun hh => heq.out.trans (mayF_near hlt hh)
              have hB : Hid (hs[j].at_ + hs[j].old.length < hs[j + 1].at_ → mayB hs = mayF (endOf hs (j + 2)) (hs.drop (j + 2))) := fun hh => heq.out.trans (mayF_next hlt (by omega) h0 hh)
              have i1 : ((j + 1 : Nat) : Int) - 1 = (j : Int) := by omega
              have i2 : ((j + 1 : Nat) : Int) = (j : Int) + 1 := by omega
              clear heq hpos ok ok2 h0
              generalize hs[j + 1].at_ = n at *
              generalize hs[j + 1].old.length = m1 at *
              generalize hs[j + 1].new.length = m2 at *
              generalize hs[j].at_ = n0 at *
              generalize hs[j].old.length = m0 at *
              have HL : Hid (j + 1 < hs.length) := hlt
              by_cases hnear : n ≤ n0 + m0
              · have hfin := Lib.hid (hA.out hnear)
                have w1 : n - n0 ≤ (m0 : Int) := by omega
                clear hA hB
                go_wp2
                go_quiet (fail)
                go_wp2
                go_ret
                rw [HER.out, hfin.out]
                exact ⟨rfl, below_drewN (hb.alloc hb.size _) _⟩
              · have hnew := Lib.hid (hB.out (by omega))
                have w1 : ¬ (n - n0 ≤ (m0 : Int)) := by omega
                clear hA hB
                go_wp2
                go_quiet (fail)
                go_wp2
                go_roundw
                case rel => exact ⟨j + 2, by omega, by go_num, hnew, hpos2, below_drewN (hb.alloc hb.size _) _⟩
                case measure => simp [intOf]; omega
          · have q1 : ((hs[k].old.length : Int) == 0) = false := by
              rw [beq_eq_false_iff_ne]
              omega
            clear hm1
            cases k with
            | zero =>
              have hnew : Hid (mayB hs = mayF (endOf hs 1) (hs.drop 1)) := heq.out.trans (mayF_first hlt (by omega) h0)
              have hpos2 : Hid (∀ j (hj : j < hs.length), j < 1 → 0 ≤ hs[j].at_) := by
                intro j hj hj1
                obtain rfl : j = 0 := by omega
                omega
              clear heq hpos ok h0
              simp only [Nat.zero_mul, Nat.add_zero] at h1 h2 h3
              generalize hs[0].at_ = n at *
              generalize hs[0].old.length = m1 at *
              generalize hs[0].new.length = m2 at *
              go_wp2
              go_quiet (fail)
              go_wp2
              go_roundw
              case rel => exact ⟨1, by omega, by go_num, hnew, hpos2, below_drewN (hb.alloc hb.size _) _⟩
              case measure => simp [intOf]; omega
            | succ j =>
              obtain ⟨b2, off2, e2, _, p1, p2, p3⟩ := hK.get (j := j) (by omega)
              cases e2
              have ok2 := hK.ok hs[j] (List.getElem_mem _)
              have l5 := ok2.hi
              have l6 := ok2.n1
              have l7 := hpos.out j (by omega) (by omega)
              have hpos2 : Hid (∀ i (hi : i < hs.length), i < j + 2 → 0 ≤ hs[i].at_) := by
                intro i hi hij
                by_cases e : i = j + 1
                · subst e; omega
                · exact hpos.out i hi (by omega)
              have hA : Hid (hs[j + 1].at_ ≤ hs[j].at_ + hs[j].old.length → mayB hs = false) := fun hh => heq.out.trans (mayF_near hlt hh)
              have hB : Hid (hs[j].at_ + hs[j].old.length < hs[j + 1].at_ → mayB hs = mayF (endOf hs (j + 2)) (hs.drop (j + 2))) := fun hh => heq.out.trans (mayF_next hlt (by omega) h0 hh)
              have i1 : ((j + 1 : Nat) : Int) - 1 = (j : Int) := by omega
              have i2 : ((j + 1 : Nat) : Int) = (j : Int) + 1 := by omega
              clear heq hpos ok ok2 h0
              generalize hs[j + 1].at_ = n at *
              generalize hs[j + 1].old.length = m1 at *
              generalize hs[j + 1].new.length = m2 at *
              generalize hs[j].at_ = n0 at *
              generalize hs[j].old.length = m0 at *
              have HL : Hid (j + 1 < hs.length) := hlt
              by_cases hnear : n ≤ n0 + m0
              · have hfin := Lib.hid (hA.out hnear)
                have w1 : n - n0 ≤ (m0 : Int) := by omega
                clear hA hB
                go_wp2
                go_quiet (fail)
                go_wp2
                go_ret
                rw [HER.out, hfin.out]
                exact ⟨rfl, below_drewN (hb.alloc hb.size _) _⟩
              · have hnew := Lib.hid (hB.out (by omega))
                have w1 : ¬ (n - n0 ≤ (m0 : Int)) := by omega
                clear hA hB
                go_wp2
                go_quiet (fail)
                go_wp2
                go_roundw
                case rel => exact ⟨j + 2, by omega, by go_num, hnew, hpos2, below_drewN (hb.alloc hb.size _) _⟩
                case measure => simp [intOf]; omega
    · have hk2 : k = hs.length := by omega
      subst hk2
      have hfin : Hid (mayB hs = true) := by show _ = _; rw [heq.out, List.drop_length]; rfl
      clear heq hpos
      go_wp2
      go_ret
      rw [HER.out, hfin.out]
      exact ⟨rfl, hb⟩
end Go.Proofs.YtempamboacbgiaaGreatDoor
namespace Go.Proofs.YtempamboacbgiaaGreatDoor
open Go.RowKit
set_option linter.unusedVariables false

/-- unicode/utf8's two tables lie in their variables. -/
def Tabs (w : World) : Prop := Lib.Utf8Tabs 1 2 w
theorem cell_lt {w : World} {b o : Nat} {v : Value} (h : w.cell? ⟨b, o, none⟩ = some v) : b < w.heap.size := by
  unfold World.cell? at h
  rcases Nat.lt_or_ge b w.heap.size with h1 | h1
  · exact h1
  · rw [Array.getElem?_eq_none h1] at h
    simp at h
theorem Tabs.on {w w' : World} (h : Tabs w) (hb : Below w.heap.size w w') : Tabs w' :=
  ⟨fun c hc => (hb.cell (p := ⟨_, c, none⟩) (cell_lt (h.1 c hc))).trans (h.1 c hc),
   fun i hi => ⟨(hb.cell (p := ⟨_, 2 * i, none⟩) (cell_lt (h.2 i hi).1)).trans (h.2 i hi).1, (hb.cell (p := ⟨_, 2 * i + 1, none⟩) (cell_lt (h.2 i hi).2)).trans (h.2 i hi).2⟩⟩

theorem decode_tail (s : ByteArray) (i : Nat) (h : i < s.size) (w : World) (hT : Tabs w) :
    Calls Tryz.prog 117 #[.string (s.extract i s.size)] w fun e w' => e = .returned (.tuple #[.int .i32 (Utf8.decode s i).1, .int .i64 (Utf8.decode s i).2]) ∧ Below w.heap.size w w' := by
  have h1 := Tryz.utf8_DecodeRuneInString (s.extract i s.size) w hT
  rw [decodeGo_tail s i h] at h1
  exact h1

set_option maxRecDepth 100000 in
theorem refline_any (s : ByteArray) (w : World) (hs : s.size ≤ 9223372036854775807) (hT : Tabs w) :
    Calls Tryz.prog 89 #[.string s] w fun e w' => e = .returned (.bool (lineB s)) ∧ Below w.heap.size w w' := by
  by_cases h2 : 200 < s.size
  · have hr : lineB s = false := by simp [lineB]; omega
    rw [hr]
    go_enter Tryz.func89, Tryz.ntmps89
    go_wp2
    go_ret
    exact ⟨rfl, Below.refl _ _⟩
  · have hr : Hid (lineB s = runes s 0) := by show _ = _; simp [lineB]; omega
    have HT := Lib.hid hT
    clear hT
    go_enter Tryz.func89, Tryz.ntmps89
    go_wp2
    go_loopw [3] (fun i wr => ∃ k : Nat, k ≤ s.size + 4 ∧ i = .int .i64 (k : Int) ∧ Hid (runes s 0 = runes s k) ∧ Below w.heap.size w wr) (fun i _ => s.size - (intOf i).toNat)
    case atStart => exact ⟨0, Nat.zero_le _, rfl, rfl, Below.refl _ _⟩
    case round =>
      obtain ⟨k, hk, rfl, heq, hb⟩ := hrel
      by_cases hlt : k < s.size
      · have hc := Lib.hid (decode_tail s k hlt wr (HT.out.on hb))
        have hp := decode_pos s k
        have hp2 := decode_le s k
        have hp3 := decode_rune s k
        have hg := runes_good (s := s) (i := k) hlt
        have hbad := runes_bad (s := s) (i := k) hlt
        obtain ⟨r, n, hd⟩ : ∃ r n, Utf8.decode s k = (r, n) := ⟨_, _, rfl⟩
        rw [hd] at hc hp hp2 hp3 hg hbad
        simp only at hc hp hp2 hp3 hg
        clear hd
        cases hbr : badRune (r, n) with
        | true =>
          have hno : Hid (lineB s = false) := by show _ = _; rw [hr.out, heq.out]; exact hbad hbr
          clear hg hbad heq hr
          have hbc : (r = 65533 ∧ n = 1) ∨ (r < 32 ∧ r ≠ 9) := by simpa [badRune] using hbr
          clear hbr
          rcases hbc with ⟨rfl, rfl⟩ | ⟨b1, b2⟩
          · go_wp2_with (go_at_call 117; refine hc.out.mono ?_; rintro e w1 ⟨rfl, hb1⟩)
            go_ret
            rw [hno.out]
            exact ⟨rfl, hb.trans (hb1.mono hb.size)⟩
          · have q1 : ((r : Int) == 65533) = false := by rw [beq_eq_false_iff_ne]; omega
            have q2 : (r : Int) < 32 := by omega
            have q3 : ((r : Int) != 9) = true := by simp; omega
            go_wp2_with (go_at_call 117; refine hc.out.mono ?_; rintro e w1 ⟨rfl, hb1⟩)
            go_ret
            rw [hno.out]
            exact ⟨rfl, hb.trans (hb1.mono hb.size)⟩
        | false =>
          have hok : Hid (runes s 0 = runes s (k + n)) := by show _ = _; rw [heq.out]; exact hg hbr
          clear hg hbad heq
          have hgc : ¬ (r = 65533 ∧ n = 1) ∧ ¬ (r < 32 ∧ r ≠ 9) := by
            have := hbr
            simp [badRune] at this
            omega
          clear hbr
          obtain ⟨g1, g2⟩ := hgc
          by_cases e1 : r = 65533
          · subst e1
            have q2 : ((n : Int) == 1) = false := by rw [beq_eq_false_iff_ne]; omega
            go_wp2_with (go_at_call 117; refine hc.out.mono ?_; rintro e w1 ⟨rfl, hb1⟩)
            have hb2 := hb.trans (hb1.mono hb.size)
            go_roundw
            case rel => exact ⟨k + n, by omega, by go_num, hok, hb2⟩
            case measure => simp [intOf]; omega
          · have q1 : ((r : Int) == 65533) = false := by rw [beq_eq_false_iff_ne]; omega
            by_cases e2 : r = 9
            · subst e2
              go_wp2_with (go_at_call 117; refine hc.out.mono ?_; rintro e w1 ⟨rfl, hb1⟩)
              have hb2 := hb.trans (hb1.mono hb.size)
              go_roundw
              case rel => exact ⟨k + n, by omega, by go_num, hok, hb2⟩
              case measure => simp [intOf]; omega
            · have q2 : ¬ (r : Int) < 32 := by omega
              go_wp2_with (go_at_call 117; refine hc.out.mono ?_; rintro e w1 ⟨rfl, hb1⟩)
              have hb2 := hb.trans (hb1.mono hb.size)
              go_roundw
              case rel => exact ⟨k + n, by omega, by go_num, hok, hb2⟩
              case measure => simp [intOf]; omega
      · have hfin : Hid (lineB s = true) := by show _ = _; rw [hr.out, heq.out]; exact runes_end hlt
        clear heq hr
        go_wp2
        go_ret
        rw [hfin.out]
        exact ⟨rfl, hb⟩

set_option maxRecDepth 100000 in
theorem refcheck_any (A : Option Addr) (ss : List ByteArray) (cap : Nat) (w : World) (hs : Strs w w.heap.size A ss) (hn : ss.length ≤ 9223372036854775807) (hz : ∀ s ∈ ss, s.size ≤ 9223372036854775807) (hT : Tabs w) :
    Calls Tryz.prog 50 #[.slice A ss.length cap] w fun e w' => e = .returned (.int .i64 (checkN ss)) ∧ Below w.heap.size w w' := by
  by_cases h2 : 2000 < ss.length
  · rw [checkN_big h2]
    go_enter Tryz.func50, Tryz.ntmps50
    go_wp2
    go_ret
    exact ⟨rfl, Below.refl _ _⟩
  · have HT := Lib.hid hT
    have HS := Lib.hid hs
    have HZ := Lib.hid hz
    clear hT hs hz
    go_enter Tryz.func50, Tryz.ntmps50
    go_wp2
    go_loopw [3] (fun i wr => ∃ k : Nat, k ≤ ss.length ∧ i = .int .i64 (k : Int) ∧ Hid (∀ j (hj : j < ss.length), j < k → lineB ss[j] = true) ∧ Below w.heap.size w wr) (fun i _ => ss.length - (intOf i).toNat)
    case atStart => exact ⟨0, Nat.zero_le _, rfl, fun j _ h => absurd h (by omega), Below.refl _ _⟩
    case round =>
      obtain ⟨k, hk, rfl, hall, hb⟩ := hrel
      by_cases hlt : k < ss.length
      · obtain ⟨g, off, rfl, hg, hc⟩ := (HS.out.below hb).at_ hlt
        have hl := Lib.hid (refline_any ss[k] wr (HZ.out _ (List.getElem_mem _)) (HT.out.on hb))
        cases hx : lineB ss[k] with
        | true =>
          have hall2 : Hid (∀ j (hj : j < ss.length), j < k + 1 → lineB ss[j] = true) := by
            intro j hj hjk
            by_cases h : j = k
            · subst h; exact hx
            · exact hall.out j hj (by omega)
          rw [hx] at hl
          generalize ss[k] = s at *
          clear hall hx
          go_wp2_with (go_at_call 89; refine hl.out.mono ?_; rintro e w1 ⟨rfl, hb1⟩)
          have hb2 := hb.trans (hb1.mono hb.size)
          go_roundw
          case rel => exact ⟨k + 1, by omega, by go_num, hall2, hb2⟩
          case measure => simp [intOf]; omega
        | false =>
          have hno : Hid (checkN ss = 6) := checkN_bad h2 hlt hx
          rw [hx] at hl
          generalize ss[k] = s at *
          clear hall hx
          go_wp2_with (go_at_call 89; refine hl.out.mono ?_; rintro e w1 ⟨rfl, hb1⟩)
          go_ret
          rw [hno.out]
          exact ⟨rfl, hb.trans (hb1.mono hb.size)⟩
      · have hk2 : k = ss.length := by omega
        subst hk2
        have hyes : Hid (checkN ss = 0) := checkN_ok h2 fun j hj => hall.out j hj hj
        clear hall
        go_wp2
        go_ret
        rw [hyes.out]
        exact ⟨rfl, hb⟩

end Go.Proofs.YtempamboacbgiaaGreatDoor
namespace Go.Proofs.YtempamboacbgiaaGreatDoor
open Go.RowKit
set_option linter.unusedVariables false

/-- Is what stands from byte k on valid UTF-8? -/
def vd (s : ByteArray) (k : Nat) : Bool := Lib.validD (s.data.toList.drop k)
theorem vd_step (s : ByteArray) (k : Nat) (h : k < s.size) : vd s k = if (Utf8.decode s k).1 = 65533 ∧ (Utf8.decode s k).2 = 1 then false else vd s (k + (Utf8.decode s k).2) := by
  unfold vd
  have hne : s.data.toList.drop k ≠ [] := by
    intro e
    have := congrArg List.length e
    simp at this
    omega
  rw [Lib.validD_step _ hne, Lib.decodeL_drop, List.drop_drop]
theorem vd_runes (s : ByteArray) : ∀ (f k : Nat), s.size - k ≤ f → vd s k = false → runes s k = false
  | 0, k, hf, h => by
    have e : s.data.toList.drop k = [] := List.drop_of_length_le (by simp; omega)
    unfold vd at h
    rw [e] at h
    cases h
  | f + 1, k, hf, h => by
    by_cases hk : k < s.size
    · have hp := decode_pos s k
      rw [vd_step s k hk] at h
      by_cases hb : badRune (Utf8.decode s k) = true
      · exact runes_bad hk hb
      · rw [Bool.not_eq_true] at hb
        rw [runes_good hk hb]
        split at h
        · rename_i hx
          obtain ⟨h1, h2⟩ := hx
          simp [badRune, h1, h2] at hb
        · exact vd_runes s f _ (by omega) h
    · have e : s.data.toList.drop k = [] := List.drop_of_length_le (by simp; omega)
      unfold vd at h
      rw [e] at h
      cases h
theorem vd_next {s : ByteArray} {k : Nat} (h : k < s.size) (hv : vd s k = true) : vd s (k + (Utf8.decode s k).2) = true ∧ (badRune (Utf8.decode s k) = decide ((Utf8.decode s k).1 < 32 ∧ (Utf8.decode s k).1 ≠ 9)) := by
  rw [vd_step s k h] at hv
  split at hv
  · cases hv
  · rename_i hx
    refine ⟨hv, ?_⟩
    unfold badRune
    rw [Bool.eq_iff_iff]
    simp only [Bool.or_eq_true, Bool.and_eq_true, beq_iff_eq, decide_eq_true_eq, Bool.not_eq_true', beq_eq_false_iff_ne]
    constructor
    · rintro (h1 | h1)
      · exact absurd h1 hx
      · exact h1
    · exact fun h1 => .inr h1

theorem valid_any (s : ByteArray) (w : World) (hs : s.size ≤ 9223372036854775807) (hT : Tabs w) :
    Calls Tryz.prog 104 #[.string s] w fun e w' => e = .returned (.bool (vd s 0)) ∧ Below w.heap.size w w' :=
  Any.utf8_ValidString Tryz.lays196 s w hs hT

set_option maxRecDepth 100000 in
theorem lright_any (s : ByteArray) (w : World) (hs : s.size ≤ 9223372036854775807) (hT : Tabs w) :
    Calls Tryz.prog 75 #[.string s] w fun e w' => e = .returned (.bool (lineB s)) ∧ Below w.heap.size w w' := by
  have HV := Lib.hid (valid_any s w hs hT)
  clear hT
  by_cases h2 : 200 < s.size
  · have hr : lineB s = false := by simp [lineB]; omega
    rw [hr]
    go_enter Tryz.func75, Tryz.ntmps75
    go_wp2
    go_ret
    exact ⟨rfl, Below.refl _ _⟩
  · have hr : Hid (lineB s = runes s 0) := by show _ = _; simp [lineB]; omega
    cases hv : vd s 0 with
    | false =>
      have hno : Hid (lineB s = false) := by show _ = _; rw [hr.out]; exact vd_runes s s.size 0 (by omega) hv
      rw [hv] at HV
      clear hr hv
      go_enter Tryz.func75, Tryz.ntmps75
      go_wp2_with (go_at_call 104; refine HV.out.mono ?_; rintro e w1 ⟨rfl, hb⟩)
      go_ret
      rw [hno.out]
      exact ⟨rfl, hb⟩
    | true =>
      rw [hv] at HV
      have HD := Lib.hid hv
      clear hv
      go_enter Tryz.func75, Tryz.ntmps75
      go_wp2_with (go_at_call 104; refine HV.out.mono ?_; rintro e w1 ⟨rfl, hb⟩)
      have hk0 : (w1.iter s 0).heap[w1.heap.size]? = some (.stringIter s 0) := World.iter_heap w1 s 0
      have hb0 : Below w.heap.size w (w1.iter s 0) := hb.alloc hb.size _
      have hB := hb.size
      go_loopw [4] (fun _ wr => ∃ pos : Nat, wr.heap[w1.heap.size]? = some (.stringIter s pos) ∧ Hid (vd s pos = true) ∧ Hid (runes s 0 = runes s pos) ∧ Below w.heap.size w wr) (fun _ wr => s.size - wr.iterPos w1.heap.size)
      case atStart => exact ⟨0, hk0, HD.out, rfl, hb0⟩
      case round =>
        obtain ⟨pos, hk, hvd, heq, hbr⟩ := hrel
        have hmu : wr.iterPos w1.heap.size = pos := by simp [World.iterPos, hk]
        clear hk0 hb0 HD
        by_cases hp : pos < s.size
        · have hnext : ∀ ty, (Instr.next (.pointer (some ⟨w1.heap.size, 0, none⟩)) true ty).run Tryz.prog wr = _ := fun ty => Lib.run_next_any_at wr w1.heap.size s pos ty hk hp
          have hk1 := Lib.iterAt_heap wr w1.heap.size s pos (pos + (Utf8.decode s pos).2) hk
          have hb1 : Below w.heap.size w (wr.iterAt w1.heap.size s (pos + (Utf8.decode s pos).2)) := Lib.below_iterAt hbr hB s _
          obtain ⟨hv1, hbad⟩ := vd_next hp hvd.out
          have hwp := decode_pos s pos
          have hrl := decode_le s pos
          have hgood := runes_good (s := s) (i := pos) hp
          have hfalse := runes_bad (s := s) (i := pos) hp
          by_cases hx : (Utf8.decode s pos).1 < 32 ∧ (Utf8.decode s pos).1 ≠ 9
          · have hno : Hid (lineB s = false) := by
              show _ = _
              rw [hr.out, heq.out]
              exact hfalse (by rw [hbad, decide_eq_true_eq]; exact hx)
            obtain ⟨x1, x2⟩ := hx
            have q1 : ((Utf8.decode s pos).1 : Int) < 32 := by omega
            have q2 : (((Utf8.decode s pos).1 : Int) != 9) = true := by simp; omega
            clear hbad hgood hfalse heq hvd
            generalize Utf8.decode s pos = d at *
            go_wp2
            go_ret
            rw [hno.out]
            exact ⟨rfl, hb1⟩
          · have hok : Hid (runes s 0 = runes s (pos + (Utf8.decode s pos).2)) := by
              show _ = _
              rw [heq.out]
              exact hgood (by rw [hbad, decide_eq_false_iff_not]; exact hx)
            have HV1 := Lib.hid hv1
            have hk2 := hk1
            clear hbad hgood hfalse heq hvd hv1
            generalize Utf8.decode s pos = d at *
            by_cases h9 : d.1 = 9
            · have q1 : ((d.1 : Int) != 9) = false := by rw [h9]; rfl
              have q2 : ((d.1 : Int) < 32) := by omega
              clear h9 hx
              go_wp2
              go_roundw
              case rel => exact ⟨pos + d.2, hk2, HV1.out, hok, hb1⟩
              case measure =>
                have e : (wr.iterAt w1.heap.size s (pos + d.2)).iterPos w1.heap.size = pos + d.2 := by simp [World.iterPos, hk2]
                rw [e, hmu]; omega
            · have q2 : ¬ ((d.1 : Int) < 32) := by omega
              clear h9 hx
              go_wp2
              go_roundw
              case rel => exact ⟨pos + d.2, hk2, HV1.out, hok, hb1⟩
              case measure =>
                have e : (wr.iterAt w1.heap.size s (pos + d.2)).iterPos w1.heap.size = pos + d.2 := by simp [World.iterPos, hk2]
                rw [e, hmu]; omega
        · have hnext : ∀ ty, (Instr.next (.pointer (some ⟨w1.heap.size, 0, none⟩)) true ty).run Tryz.prog wr = _ := fun ty => Lib.run_next_end_at wr w1.heap.size s pos ty hk hp
          have hfin : Hid (lineB s = true) := by show _ = _; rw [hr.out, heq.out]; exact runes_end hp
          clear heq hvd
          go_wp2
          go_ret
          rw [hfin.out]
          exact ⟨rfl, hbr⟩

set_option maxRecDepth 100000 in
theorem lcheck_any (A : Option Addr) (ss : List ByteArray) (cap : Nat) (w : World) (hs : Strs w w.heap.size A ss) (hn : ss.length ≤ 9223372036854775807) (hz : ∀ s ∈ ss, s.size ≤ 9223372036854775807) (hT : Tabs w) :
    Calls Tryz.prog 42 #[.slice A ss.length cap] w fun e w' => e = .returned (.int .i64 (checkN ss)) ∧ Below w.heap.size w w' := by
  by_cases h2 : 2000 < ss.length
  · rw [checkN_big h2]
    go_enter Tryz.func42, Tryz.ntmps42
    go_wp2
    go_ret
    exact ⟨rfl, Below.refl _ _⟩
  · have HT := Lib.hid hT
    have HS := Lib.hid hs
    have HZ := Lib.hid hz
    clear hT hs hz
    go_enter Tryz.func42, Tryz.ntmps42
    go_wp2
    go_loopw [10] (fun i wr => ∃ k : Nat, k ≤ ss.length ∧ i = .int .i64 (k : Int) ∧ Hid (∀ j (hj : j < ss.length), j < k → lineB ss[j] = true) ∧ Below w.heap.size w wr) (fun i _ => ss.length - (intOf i).toNat)
    case atStart => exact ⟨0, Nat.zero_le _, rfl, fun j _ h => absurd h (by omega), Below.refl _ _⟩
    case round =>
      obtain ⟨k, hk, rfl, hall, hb⟩ := hrel
      by_cases hlt : k < ss.length
      · obtain ⟨g, off, rfl, hg, hc⟩ := (HS.out.below hb).at_ hlt
        have hl := Lib.hid (lright_any ss[k] wr (HZ.out _ (List.getElem_mem _)) (HT.out.on hb))
        cases hx : lineB ss[k] with
        | true =>
          have hall2 : Hid (∀ j (hj : j < ss.length), j < k + 1 → lineB ss[j] = true) := by
            intro j hj hjk
            by_cases h : j = k
            · subst h; exact hx
            · exact hall.out j hj (by omega)
          rw [hx] at hl
          generalize ss[k] = s at *
          clear hall hx
          go_wp2_with (go_at_call 75; refine hl.out.mono ?_; rintro e w1 ⟨rfl, hb1⟩)
          have hb2 := hb.trans (hb1.mono hb.size)
          go_roundw
          case rel => exact ⟨k + 1, by omega, by go_num, hall2, hb2⟩
          case measure => simp [intOf]; omega
        | false =>
          have hno : Hid (checkN ss = 6) := checkN_bad h2 hlt hx
          rw [hx] at hl
          generalize ss[k] = s at *
          clear hall hx
          go_wp2_with (go_at_call 75; refine hl.out.mono ?_; rintro e w1 ⟨rfl, hb1⟩)
          go_ret
          rw [hno.out]
          exact ⟨rfl, hb.trans (hb1.mono hb.size)⟩
      · have hk2 : k = ss.length := by omega
        subst hk2
        have hyes : Hid (checkN ss = 0) := checkN_ok h2 fun j hj => hall.out j hj hj
        clear hall
        go_wp2
        go_ret
        rw [hyes.out]
        exact ⟨rfl, hb⟩
end Go.Proofs.YtempamboacbgiaaGreatDoor
namespace Go.Proofs.YtempamboacbgiaaGreatDoor
open Go.RowKit
set_option linter.unusedVariables false

theorem split_pieces : ∀ l : List UInt8, Lib.split l [47] = pieces l
  | [] => by
    unfold Lib.split
    rw [Lib.count_miss (by simp [Lib.index])]
    rfl
  | c :: l => by
    have ih := split_pieces l
    unfold Lib.split at ih ⊢
    by_cases h : c = 47
    · subst h
      have hix : Lib.index (47 :: l) [47] = ((0 : Nat) : Int) := by rw [Lib.index]; simp [List.isPrefixOf]
      rw [Lib.count_cons_eq, Nat.add_comm, Lib.splitK, hix, pieces, if_pos rfl]
      simp [ih]
    · have hp : ([47] : List UInt8).isPrefixOf (c :: l) = false := by simp [List.isPrefixOf, Ne.symm h]
      have hix : Lib.index (c :: l) [47] = if Lib.index l [47] == -1 then -1 else Lib.index l [47] + 1 := by rw [Lib.index, hp]; simp
      rw [Lib.count_cons_ne _ _ _ h, pieces, if_neg h, ← ih]
      by_cases hm : Lib.index l [47] = -1
      · rw [Lib.count_miss hm]
        rfl
      · have hge := Lib.index_ge l [47]
        obtain ⟨j, hj⟩ : ∃ j : Nat, Lib.index l [47] = j := ⟨(Lib.index l [47]).toNat, by omega⟩
        have hix' : Lib.index (c :: l) [47] = ((j + 1 : Nat) : Int) := by rw [hix, if_neg (fun e => hm (beq_iff_eq.1 e)), hj]; omega
        rw [Lib.count_hit (by simp) hj, Nat.add_comm 1, Lib.splitK, Lib.splitK, hix', hj]
        have n1 : ¬ (((j + 1 : Nat) : Int) == -1) = true := fun e => by have := beq_iff_eq.1 e; omega
        have n2 : ¬ (((j : Nat) : Int) == -1) = true := fun e => by have := beq_iff_eq.1 e; omega
        rw [if_neg n1, if_neg n2]
        simp
theorem split_bytes (s : ByteArray) : Lib.splitB ⟨#[47]⟩ 0 (Lib.countB s ⟨#[47]⟩) s = toBs (pieces s.data.toList) := by
  have h := Lib.splitB_data ⟨#[47]⟩ 0 (Lib.countB s ⟨#[47]⟩) s
  have e : lists (Lib.splitB ⟨#[47]⟩ 0 (Lib.countB s ⟨#[47]⟩) s) = pieces s.data.toList := by
    unfold lists
    rw [h, ← split_pieces]
    rfl
  rw [← e, toBs_lists]
theorem split_count (s : ByteArray) : Lib.countB s ⟨#[47]⟩ + 1 = (pieces s.data.toList).length := by
  have h := Lib.splitB_all ⟨#[47]⟩ (by decide) 0 _ s rfl
  rw [split_bytes, toBs_len] at h
  exact h.symm
open Go.Shelf in
set_option maxHeartbeats 1000000 in
theorem split_slash {P : Program} {ρ : Ren} (L : Lays.n146 P ρ) (hi9 : (P.info? (ρ.t 9)).map (fun i => (i.zero, i.size, i.bytes)) = some (some (.string ByteArray.empty), 1, 16)) (s : ByteArray) (w : World) (hs : s.size < 4294967281) :
    Calls P (ρ.f 146) #[.string s, .string ⟨#[47]⟩] w fun e w' => e = .returned (.slice (some ⟨w.heap.size, 0, none⟩) (pieces s.data.toList).length (pieces s.data.toList).length) ∧ w' = w.alloc (.cells ((toBs (pieces s.data.toList)).map Value.string).toArray (ρ.t 9)) := by
  have hle := Lib.countB_le ⟨#[47]⟩ (by decide) s.size s (Nat.le_refl _)
  have hI : ∀ (x : ByteArray) (c : Array Value), x.size ≤ s.size → Calls P (ρ.f 143) #[.string x, .string ⟨#[47]⟩] (w.alloc (.cells c (ρ.t 9))) fun e w' => e = .returned (.int .i64 (Lib.indexB x ⟨#[47]⟩)) ∧ w' = w.alloc (.cells c (ρ.t 9)) := fun x c _ => by
    have h := Any.strings_Index_one { L with } x 47 (w.alloc (.cells c (ρ.t 9)))
    rwa [← Lib.index_one] at h
  have hC : Calls P (ρ.f 138) #[.string s, .string ⟨#[47]⟩] w fun e w' => e = .returned (.int .i64 (Lib.countB s ⟨#[47]⟩)) ∧ w' = w := by
    have h := Any.strings_Count_one { L with } s 47 w
    unfold Lib.countByte at h
    rwa [← Lib.count_one] at h
  have c := Any.strings_genSplit_core { L with } hi9 s ⟨#[47]⟩ 0 (-1) (Lib.countB s ⟨#[47]⟩ + 1) w hs (by decide) (Nat.zero_le _) hI hC (by decide) (by decide) (by rw [if_pos (by decide)]; omega)
  rw [Nat.add_sub_cancel, split_bytes, toBs_len, split_count] at c
  have e2 : Lib.cellsOf (toBs (pieces s.data.toList)) (pieces s.data.toList).length = ((toBs (pieces s.data.toList)).map Value.string).toArray := by
    rw [← toBs_len (pieces s.data.toList)]
    exact Lib.cellsOf_full _
  rw [e2] at c
  clear e2 hI hC hle
  generalize ((toBs (pieces s.data.toList)).map Value.string).toArray = cs at *
  generalize (pieces s.data.toList).length = n at *
  have t3 := L.t3; have t9 := L.t9; have t31 := L.t31
  have a3 := L.a3; have a9 := L.a9; have a31 := L.a31
  have z3 := L.z3; have v3 := L.v3; have z9 := L.z9; have v9 := L.v9; have z31 := L.z31; have v31 := L.v31
  have e221 : ∀ args w, (callFunc (ρ.f 221) args).run P w = .ok (.enter (ρ.f 221) args) w := enters_of L.f221 (by kernel_rfl) rfl
  go_enter L.f146, Body.n146_ntmps ρ
  go_wp2_with (go_at_fn (ρ.f 221); refine c.mono ?_; rintro e w' ⟨rfl, hw⟩; rw [hw])
  go_ret
  exact ⟨rfl, rfl⟩
end Go.Proofs.YtempamboacbgiaaGreatDoor
