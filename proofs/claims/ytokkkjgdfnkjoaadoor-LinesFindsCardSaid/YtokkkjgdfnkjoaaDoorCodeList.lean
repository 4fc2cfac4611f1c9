
/- code.List answers a list's bytes; new blocks alone are made. -/
import Derived.Test.YtokkkjgdfnkjoaaDoorCodeLay
namespace Go.Proofs.YtokkkjgdfnkjoaaDoor
open Go.RowKit
set_option linter.unusedVariables false

theorem lists_take (ss : List ByteArray) (k : Nat) (h : k < ss.length) : textsB (lists (ss.take (k + 1))) = textsB (lists (ss.take k)) ++ textB ss[k].data.toList := by
  rw [List.take_succ_eq_append_getElem h]
  unfold lists
  rw [List.map_append]
  exact textsB_snoc _ _
theorem texts_take_le (ss : List ByteArray) (k : Nat) : (textsB (lists (ss.take k))).length ≤ (textsB (lists ss)).length := by
  have h : textsB (lists ss) = textsB (lists (ss.take k)) ++ textsB (lists (ss.drop k)) := by
    rw [← textsB_append]; unfold lists; rw [← List.map_append, List.take_append_drop]
  rw [h]; simp

set_option maxRecDepth 100000 in
theorem list_any (A : Option Addr) (ss : List ByteArray) (cap : Nat) (w : World) (hs : Strs w w.heap.size A ss) (hn : ss.length ≤ 140737488351232)
    (hlen : (numB ss.length).length + (textsB (lists ss)).length ≤ 140737488351232) :
    Calls Tryd.prog 23 #[.slice A ss.length cap] w fun e w' => e = .returned (.string ⟨(listB (lists ss)).toArray⟩) ∧ Below w.heap.size w w' := by
  go_enter Tryd.func23, Tryd.ntmps23
  go_wp2_with (go_at_call 39; refine (size_any _ _ (by omega) (by omega)).mono ?_; rintro e w1 ⟨rfl, hb1⟩)
  refine (layer_any ⟨(numB ss.length).toArray⟩ _ (by rw [size_mk]; omega)).mono ?_
  rintro e w2 ⟨rfl, hh, hb2⟩
  have hsz1 := hb1.size
  have hsz2 := hb2.size
  have hb := hb1.trans (hb2.mono hsz1)
  have hh2 : Hid (Holds w1.heap.size w1.heap.size (numB ss.length) w2) := hh
  clear hh hb2
  have hsB : w.heap.size ≤ w1.heap.size := hsz1
  have hbs0 : Below w.heap.size w w2 := hb
  go_wp2_with fail
  go_loopw [12] (fun i wr => ∃ k : Nat, k ≤ ss.length ∧ i = .int .i64 (k : Int) ∧ Hid (Holds w1.heap.size w1.heap.size (numB ss.length ++ textsB (lists (ss.take k))) wr) ∧ Below w.heap.size w wr ∧ w1.heap.size ≤ wr.heap.size)
    (fun i _ => ss.length - (intOf i).toNat)
  case atStart => exact ⟨0, Nat.zero_le _, rfl, show Holds _ _ _ _ by simpa [lists, textsB] using hh2.out, hb, by omega⟩
  case round =>
    obtain ⟨k, hk, rfl, hh, hb, hsz⟩ := hrel
    have hle := texts_take_le ss k
    clear hh2 hbs0
    by_cases hlt : k < ss.length
    · have hs1 := hs.below hb
      obtain ⟨g, off, rfl, hg, hc⟩ := hs1.at_ hlt
      clear hs1
      have hf := lists_take ss k hlt
      have hle2 := texts_take_le ss (k + 1)
      rw [hf] at hle2
      have HF := Lib.hid hf
      clear hf
      generalize hs' : ss[k] = s at *
      have e : s.data.toList.length = s.size := by simp
      have htb : (textB s.data.toList).length = (numB s.size).length + s.size := by simp [textB]
      rw [List.length_append, htb] at hle2
      clear htb e
      generalize hpre : textsB (lists (ss.take k)) = pre at *
      go_wp2_with (go_at_call 39; refine (size_any _ _ (by omega) (by omega)).mono ?_; rintro e w3 ⟨rfl, hb3⟩)
      have hsz3 := hb3.size
      have hh3 : Hid (Holds w1.heap.size w1.heap.size (numB ss.length ++ pre) (w3.alloc (.cells #[.string ⟨(numB s.size).toArray⟩, .string s] 9))) :=
        hh.out.below (hb3.alloc (by omega) _)
      have hr := strRow_new2 w3 ⟨(numB s.size).toArray⟩ s
      have hlen4 : (numB ss.length ++ pre).length + (flat [⟨(numB s.size).toArray⟩, s]).length ≤ 140737488355328 := by
        simp [flat]; omega
      clear hh
      go_wp2_with (go_at_call 48; refine (lay_any w1.heap.size w1.heap.size (numB ss.length ++ pre) _ [⟨(numB s.size).toArray⟩, s] 2 _ hh3.out hr hlen4 (by simp) (by simp; omega)).mono ?_; rintro e w4 ⟨rfl, hh4, hb4, ho4⟩)
      have hb5 := hb.trans (((hb3.mono (Nat.le_trans hsB hsz)).alloc (by omega) _).trans (hb4.mono hsB))
      have hsz5 : w1.heap.size ≤ w4.heap.size := by have := hb4.size; simp at this; omega
      have hh5 : Hid (Holds w1.heap.size w1.heap.size (numB ss.length ++ textsB (lists (ss.take (k + 1)))) w4) := by
        show Holds _ _ _ _
        rw [HF.out]
        simpa [textB, flat, List.append_assoc] using hh4
      clear hh4 hh3 hr
      go_roundw
      case rel => exact ⟨k + 1, by omega, by go_num, hh5, hb5, hsz5⟩
      case measure => simp [intOf]; omega
    · have hk2 : k = ss.length := by omega
      subst hk2
      have e : ss.take ss.length = ss := List.take_length
      rw [e] at hh
      have hlen4 : (numB ss.length ++ textsB (lists ss)).length + (flat []).length ≤ 140737488355328 := by simp [flat]; omega
      go_wp2_with (go_at_call 48; refine (lay_any w1.heap.size w1.heap.size (numB ss.length ++ textsB (lists ss)) none [] 0 _ hh.out (fun h => absurd h (by simp)) hlen4 (by simp) (by omega)).mono ?_; rintro e w4 ⟨rfl, hh4, hb4, ho4⟩)
      go_ret
      refine ⟨by simp [listB, flat, lists_len], hb.trans (hb4.mono hsB)⟩
end Go.Proofs.YtokkkjgdfnkjoaaDoor
