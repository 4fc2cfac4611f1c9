
/- lines.Text: each line and a line end, by a builder. -/
import Derived.Test.YtokkkjgdfnkjoaaDoorCodeLay
import Derived.Test.YtokkkjgdfnkjoaaDoorRefLine
namespace Go.Proofs.YtokkkjgdfnkjoaaDoor
open Go.RowKit
set_option linter.unusedVariables false

set_option maxRecDepth 100000 in
theorem ltext_any (A : Option Addr) (ss : List ByteArray) (cap : Nat) (w : World) (hs : Strs w w.heap.size A ss) (hn : ss.length ≤ 1000000) (hz : (textL (lists ss)).length ≤ 140737488351232) :
    Calls Tryd.prog 11 #[.slice A ss.length cap] w fun e w' => e = .returned (.string (toB (textL (lists ss)))) ∧ Below w.heap.size w w' := by
  have HH := Lib.hid (holds_new w)
  have HS := Lib.hid hs
  clear hs
  go_enter Tryd.func11, Tryd.ntmps11
  go_wp2
  go_loopw [8] (fun i wr => ∃ (k : Nat) (l : List UInt8), k ≤ ss.length ∧ i = .int .i64 (k : Int) ∧ Hid (l = textL (lists (ss.take k))) ∧ Hid (Holds w.heap.size w.heap.size l wr) ∧ Below w.heap.size w wr) (fun i _ => ss.length - (intOf i).toNat)
  case atStart => exact ⟨0, [], Nat.zero_le _, rfl, rfl, HH.out, (Below.refl _ w).alloc (Nat.le_refl _) _⟩
  case round =>
    obtain ⟨k, l, hk, rfl, hl, hh, hb⟩ := hrel
    clear HH
    by_cases hlt : k < ss.length
    · obtain ⟨g, off, rfl, hg, hc⟩ := (HS.out.below hb).at_ hlt
      have hnew : Hid (l ++ ss[k].data.toList ++ [10] = textL (lists (ss.take (k + 1)))) := by
        show _ = _
        rw [lists_take1 ss k hlt, textL_snoc, hl.out]
      have hle : l.length + ss[k].size + 1 ≤ 140737488351232 := by
        have h1 := congrArg List.length hnew.out
        have h2 := textL_le (lists ss) (k + 1)
        rw [← lists_take0, ← h1] at h2
        simp only [List.length_append, List.length_singleton, Array.length_toList, ByteArray.size_data] at h2
        omega
      have hB := hb.size
      generalize ss[k] = s at *
      have hs2 : s.data.toList.length = s.size := by simp
      have HL := Lib.hid hs2
      clear hl hs2
      go_wp2_with fail
      refine (write_holds _ _ l s _ hh.out (by omega) hB).mono ?_
      rintro e w1 ⟨rfl, hh1, hb1, ho1⟩
      have hb1' := hb.trans hb1
      have hB1 := hb1'.size
      have HH1 := Lib.hid hh1
      clear hh hh1 ho1 hb1
      go_wp2_with fail
      refine (write_holds _ _ (l ++ s.data.toList) ⟨#[10]⟩ _ HH1.out (by rw [List.length_append, HL.out]; show _ + 1 ≤ _; omega) hB1).mono ?_
      rintro e w2 ⟨rfl, hh2, hb2, ho2⟩
      have hb2' := hb1'.trans hb2
      have HH2 : Hid (Holds w.heap.size w.heap.size (l ++ s.data.toList ++ [10]) w2) := hh2
      clear hh2 ho2 hb2 HH1
      go_wp2
      go_roundw
      case rel => exact ⟨k + 1, l ++ s.data.toList ++ [10], by omega, by go_num, hnew, HH2, hb2'⟩
      case measure => simp [intOf]; omega
    · have hk2 : k = ss.length := by omega
      subst hk2
      have hfin : Hid (l = textL (lists ss)) := by show _ = _; rw [hl.out, List.take_length]
      have hB := hb.size
      clear hl
      go_wp2_with fail
      refine (string_any w.heap.size w.heap.size l _ hh.out hB).mono ?_
      rintro e w1 ⟨rfl, hh1, hb1, ho1⟩
      have hb1' := hb.trans hb1
      clear hh hh1 ho1 hb1
      go_wp2
      go_ret
      rw [← hfin.out]
      exact ⟨rfl, hb1'⟩
end Go.Proofs.YtokkkjgdfnkjoaaDoor
