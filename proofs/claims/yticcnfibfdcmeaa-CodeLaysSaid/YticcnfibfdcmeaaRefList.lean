/- The reference's Text, List and Same; the statement's light. -/
import Derived.Test.YticcnfibfdcmeaaCodeList
import Derived.Test.YticcnfibfdcmeaaRefNum
import Derived.BigQuiet
import Derived.Deep.QuietTactic
namespace Go.Proofs.Yticcnfibfdcmeaa
open Go.RowKit
set_option linter.unusedVariables false

theorem bytes_append (l : List UInt8) (s : ByteArray) : (⟨l.toArray⟩ ++ s : ByteArray) = ⟨(l ++ s.data.toList).toArray⟩ := by
  apply ByteArray.ext
  simp

set_option maxRecDepth 100000 in
theorem reftext_any (s : ByteArray) (w : World) (hs : s.size ≤ 140737488351232) :
    Calls Try.prog 15 #[.string s] w fun e w' => e = .returned (.string ⟨(textB s.data.toList).toArray⟩) ∧ Below w.heap.size w w' := by
  have hl := numB_len s.size
  go_enter Try.func15, Try.ntmps15
  go_wp2_with (go_at_call 14; refine (refnum_any _ _ (by omega) (by omega)).mono ?_; rintro e w1 ⟨rfl, hb1⟩)
  go_ret
  refine ⟨?_, hb1⟩
  rw [bytes_append]
  rfl

set_option maxRecDepth 100000 in
theorem reflist_any (A : Option Addr) (ss : List ByteArray) (cap : Nat) (w : World) (hs : Strs w w.heap.size A ss) (hn : ss.length ≤ 140737488351232)
    (hlen : (numB ss.length).length + (textsB (lists ss)).length ≤ 140737488351232) :
    Calls Try.prog 16 #[.slice A ss.length cap] w fun e w' => e = .returned (.string ⟨(listB (lists ss)).toArray⟩) ∧ Below w.heap.size w w' := by
  go_enter Try.func16, Try.ntmps16
  go_wp2_with (go_at_call 14; refine (refnum_any _ _ (by omega) (by omega)).mono ?_; rintro e w1 ⟨rfl, hb1⟩)
  go_loopw [3, 4] (fun x i wr => ∃ k : Nat, k ≤ ss.length ∧ i = .int .i64 (k : Int) ∧ x = .string ⟨(numB ss.length ++ textsB (lists (ss.take k))).toArray⟩ ∧ Below w.heap.size w wr)
    (fun _ i _ => ss.length - (intOf i).toNat)
  case atStart => exact ⟨0, Nat.zero_le _, rfl, by simp [lists, textsB], hb1⟩
  case round =>
    obtain ⟨k, hk, rfl, rfl, hb⟩ := hrel
    have hle := texts_take_le ss k
    by_cases hlt : k < ss.length
    · have hs1 := hs.below hb
      obtain ⟨g, off, rfl, hg, hc⟩ := hs1.at_ hlt
      clear hs1
      have hf := lists_take ss k hlt
      have hle2 := texts_take_le ss (k + 1)
      rw [hf] at hle2
      have HF := Lib.hid hf
      clear hf
      generalize hs' : ss[k] = s at *
      have e : s.data.toList.length = s.size := by simp
      have htb : (textB s.data.toList).length = (numB s.size).length + s.size := by simp [textB]
      rw [List.length_append, htb] at hle2
      have h3 : (⟨(textB s.data.toList).toArray⟩ : ByteArray).size = (numB s.size).length + s.size := by rw [size_mk, htb]
      have h4 : (⟨(numB ss.length ++ textsB (lists (ss.take k))).toArray⟩ : ByteArray).size = (numB ss.length).length + (textsB (lists (ss.take k))).length := by rw [size_mk, List.length_append]
      generalize hpre : numB ss.length ++ textsB (lists (ss.take k)) = pre at *
      clear htb e
      go_wp2_with (go_at_call 15; refine (reftext_any _ _ (by omega)).mono ?_; rintro e w3 ⟨rfl, hb3⟩)
      have hb5 := hb.trans (hb3.mono hb.size)
      have hfin : Hid ((⟨pre.toArray⟩ ++ ⟨(textB s.data.toList).toArray⟩ : ByteArray) = ⟨(numB ss.length ++ textsB (lists (ss.take (k + 1)))).toArray⟩) := by
        show _ = _
        rw [bytes_append, HF.out, ← List.append_assoc, hpre]
      clear HF hpre
      go_roundw
      case rel => exact ⟨k + 1, by omega, by go_num, by rw [hfin.out], hb5⟩
      case measure => simp [intOf]; omega
    · have hk2 : k = ss.length := by omega
      subst hk2
      have e : ss.take ss.length = ss := List.take_length
      rw [e]
      go_wp2
      go_ret
      exact ⟨by simp [listB, lists_len], hb⟩

def lightB (ss : List ByteArray) : Bool := ss.all (fun s => decide (s.size ≤ 300)) && decide (ss.length ≤ 30)
theorem lightB_no {ss : List ByteArray} {k : Nat} (hk : k < ss.length) (h : 300 < (ss[k].size : Int)) : lightB ss = false := by
  unfold lightB
  rw [Bool.and_eq_false_iff]
  left
  rw [List.all_eq_false]
  exact ⟨ss[k], List.getElem_mem _, by simp; omega⟩
theorem lightB_yes {ss : List ByteArray} (h : ∀ j (hj : j < ss.length), ss[j].size ≤ 300) : lightB ss = decide (ss.length ≤ 30) := by
  unfold lightB
  have : ss.all (fun s => decide (s.size ≤ 300)) = true := by
    rw [List.all_eq_true]
    intro s hs
    obtain ⟨j, hj, rfl⟩ := List.getElem_of_mem hs
    simpa using h j hj
  rw [this]; simp

set_option maxRecDepth 100000 in
theorem light_any (A : Option Addr) (ss : List ByteArray) (cap : Nat) (w : World) (hs : Strs w w.heap.size A ss) (hn : ss.length ≤ 9223372036854775807) :
    Calls Try.prog 5 #[.slice A ss.length cap] w fun e w' => e = .returned (.bool (lightB ss)) ∧ w = w' := by
  go_enter Try.func5, Try.ntmps5
  go_wp2
  go_loop [3] (fun i => ∃ k : Nat, k ≤ ss.length ∧ i = .int .i64 (k : Int) ∧ Hid (∀ j (hj : j < ss.length), j < k → ss[j].size ≤ 300)) (fun i => ss.length - (intOf i).toNat)
  case atStart => exact ⟨0, Nat.zero_le _, rfl, fun j _ h => absurd h (by omega)⟩
  case round =>
    obtain ⟨k, hk, rfl, hall⟩ := hrel
    by_cases hlt : k < ss.length
    · obtain ⟨g, off, rfl, hg, hc⟩ := hs.at_ hlt
      have hno := Lib.hid (lightB_no hlt)
      have hyes : Hid (((ss[k].size : Int) ≤ 300) → ∀ j (hj : j < ss.length), j < k + 1 → ss[j].size ≤ 300) := by
        intro h j hj hjk
        by_cases he : j = k
        · subst he; omega
        · exact hall.out j hj (by omega)
      generalize ss[k] = s at *
      clear hs hall
      by_cases h3 : 300 < s.size
      · have hno2 := Lib.hid (hno.out (by omega))
        clear hno hyes
        go_wp2
        go_ret
        rw [hno2.out]
        exact ⟨rfl, rfl⟩
      · have hyes2 := Lib.hid (hyes.out (by omega))
        clear hno hyes
        go_wp2
        go_round
        case rel => exact ⟨k + 1, by omega, by go_num, hyes2⟩
        case measure => simp [intOf]; omega
    · have hk2 : k = ss.length := by omega
      subst hk2
      have hy := Lib.hid (lightB_yes (fun j hj => hall.out j hj hj))
      clear hall
      go_wp2
      go_ret
      rw [hy.out]
      exact ⟨by simp; omega, rfl⟩
end Go.Proofs.Yticcnfibfdcmeaa
