
/- The reference's Text and List. -/
import Derived.Test.YtokkkjgdfnkjoaaDoorCodeList
import Derived.Test.YtokkkjgdfnkjoaaDoorRefNum
import Derived.BigQuiet
import Derived.Deep.QuietTactic
namespace Go.Proofs.YtokkkjgdfnkjoaaDoor
open Go.RowKit
set_option linter.unusedVariables false

theorem bytes_append (l : List UInt8) (s : ByteArray) : (⟨l.toArray⟩ ++ s : ByteArray) = ⟨(l ++ s.data.toList).toArray⟩ := by
  apply ByteArray.ext
  simp

set_option maxRecDepth 100000 in
theorem reftext_any (s : ByteArray) (w : World) (hs : s.size ≤ 140737488351232) :
    Calls Tryd.prog 34 #[.string s] w fun e w' => e = .returned (.string ⟨(textB s.data.toList).toArray⟩) ∧ Below w.heap.size w w' := by
  have hl := numB_len s.size
  go_enter Tryd.func34, Tryd.ntmps34
  go_wp2_with (go_at_call 33; refine (refnum_any _ _ (by omega) (by omega)).mono ?_; rintro e w1 ⟨rfl, hb1⟩)
  go_ret
  refine ⟨?_, hb1⟩
  rw [bytes_append]
  rfl

set_option maxRecDepth 100000 in
theorem reflist_any (A : Option Addr) (ss : List ByteArray) (cap : Nat) (w : World) (hs : Strs w w.heap.size A ss) (hn : ss.length ≤ 140737488351232)
    (hlen : (numB ss.length).length + (textsB (lists ss)).length ≤ 140737488351232) :
    Calls Tryd.prog 15 #[.slice A ss.length cap] w fun e w' => e = .returned (.string ⟨(listB (lists ss)).toArray⟩) ∧ Below w.heap.size w w' := by
  go_enter Tryd.func15, Tryd.ntmps15
  go_wp2_with (go_at_call 33; refine (refnum_any _ _ (by omega) (by omega)).mono ?_; rintro e w1 ⟨rfl, hb1⟩)
  go_loopw [3, 4] (fun x i wr => ∃ k : Nat, k ≤ ss.length ∧ i = .int .i64 (k : Int) ∧ x = .string ⟨(numB ss.length ++ textsB (lists (ss.take k))).toArray⟩ ∧ Below w.heap.size w wr)
    (fun _ i _ => ss.length - (intOf i).toNat)
  case atStart => exact ⟨0, Nat.zero_le _, rfl, by simp [lists, textsB], hb1⟩
  case round =>
    obtain ⟨k, hk, rfl, rfl, hb⟩ := hrel
    have hle := texts_take_le ss k
    by_cases hlt : k < ss.length
    · have hs1 := hs.below hb
      obtain ⟨g, off, rfl, hg, hc⟩ := hs1.at_ hlt
      clear hs1
      have hf := lists_take ss k hlt
      have hle2 := texts_take_le ss (k + 1)
      rw [hf] at hle2
      have HF := Lib.hid hf
      clear hf
      generalize hs' : ss[k] = s at *
      have e : s.data.toList.length = s.size := by simp
      have htb : (textB s.data.toList).length = (numB s.size).length + s.size := by simp [textB]
      rw [List.length_append, htb] at hle2
      have h3 : (⟨(textB s.data.toList).toArray⟩ : ByteArray).size = (numB s.size).length + s.size := by rw [size_mk, htb]
      have h4 : (⟨(numB ss.length ++ textsB (lists (ss.take k))).toArray⟩ : ByteArray).size = (numB ss.length).length + (textsB (lists (ss.take k))).length := by rw [size_mk, List.length_append]
      generalize hpre : numB ss.length ++ textsB (lists (ss.take k)) = pre at *
      clear htb e
      go_wp2_with (go_at_call 34; refine (reftext_any _ _ (by omega)).mono ?_; rintro e w3 ⟨rfl, hb3⟩)
      have hb5 := hb.trans (hb3.mono hb.size)
      have hfin : Hid ((⟨pre.toArray⟩ ++ ⟨(textB s.data.toList).toArray⟩ : ByteArray) = ⟨(numB ss.length ++ textsB (lists (ss.take (k + 1)))).toArray⟩) := by
        show _ = _
        rw [bytes_append, HF.out, ← List.append_assoc, hpre]
      clear HF hpre
      go_roundw
      case rel => exact ⟨k + 1, by omega, by go_num, by rw [hfin.out], hb5⟩
      case measure => simp [intOf]; omega
    · have hk2 : k = ss.length := by omega
      subst hk2
      have e : ss.take ss.length = ss := List.take_length
      rw [e]
      go_wp2
      go_ret
      exact ⟨by simp [listB, lists_len], hb⟩

end Go.Proofs.YtokkkjgdfnkjoaaDoor
