/- The reference's Keep; the statements' light. -/
import Derived.Test.YtekegomlodbohaaRefName
namespace Go.Proofs.Ytekegomlodbohaa
open Go.RowKit
set_option linter.unusedVariables false

/-- Those of a list that are among others, or are not. -/
def keepS (a b : List (List UInt8)) (inb : Bool) : List (List UInt8) := a.filter fun x => decide (x ∈ b) == inb
theorem keep_yes (ss : List ByteArray) (b : List (List UInt8)) (inb : Bool) (k : Nat) (h : k < ss.length) (hr : decide (ss[k].data.toList ∈ b) = inb) :
    keepS (lists (ss.take (k + 1))) b inb = keepS (lists (ss.take k)) b inb ++ [ss[k].data.toList] := by
  rw [lists_take_succ ss k h, keepS, List.filter_append]
  simp [keepS, hr]
theorem keep_no (ss : List ByteArray) (b : List (List UInt8)) (inb : Bool) (k : Nat) (h : k < ss.length) (hr : decide (ss[k].data.toList ∈ b) ≠ inb) :
    keepS (lists (ss.take (k + 1))) b inb = keepS (lists (ss.take k)) b inb := by
  rw [lists_take_succ ss k h, keepS, List.filter_append]
  simp [keepS, hr]

set_option maxHeartbeats 1000000 in
set_option maxRecDepth 100000 in
theorem refkeep_any (A A2 : Option Addr) (ss tt : List ByteArray) (cap cap2 : Nat) (inb : Bool) (w : World) (hs : Strs w w.heap.size A ss) (ht : Strs w w.heap.size A2 tt) (hn : ss.length ≤ 100000) (hn2 : tt.length ≤ 100000) :
    Calls Try.prog 11 #[.slice A ss.length cap, .slice A2 tt.length cap2, .bool inb] w fun e w' => ∃ v, e = .returned v ∧ OwnS w' w.heap.size v (setS (keepS (lists ss) (lists tt) inb)) ∧ Below w.heap.size w w' := by
  go_enter Try.func11, Try.ntmps11
  go_wp2
  go_loopw [7, 8] (fun v i wr => ∃ (k : Nat) (ls : List (List UInt8)), k ≤ ss.length ∧ i = .int .i64 (k : Int) ∧ Hid (ls = keepS (lists (ss.take k)) (lists tt) inb) ∧ Hid (OwnS wr w.heap.size v ls) ∧ ls.length ≤ k ∧ Below w.heap.size w wr) (fun _ i _ => ss.length - (intOf i).toNat)
  case atStart => exact ⟨0, [], Nat.zero_le _, rfl, rfl, OwnS.nil _ _, by simp, Below.refl _ _⟩
  case round =>
    obtain ⟨k, ls, hk, rfl, hls, hown, hlen, hb⟩ := hrel
    have hB := hb.size
    by_cases hlt : k < ss.length
    · obtain ⟨g, off, rfl, hg, hc⟩ := (hs.below hb).at_ hlt
      have hx := refhas_any A2 tt cap2 ss[k] wr (ht.on hb) (by omega)
      have hy := keep_yes ss (lists tt) inb k hlt
      have hz := keep_no ss (lists tt) inb k hlt
      rw [← hls.out] at hy hz
      have HY := Lib.hid hy
      have HZ := Lib.hid hz
      generalize ss[k] = s at *
      generalize decide (s.data.toList ∈ lists tt) = r at *
      have hl2 : ls.length + [s.data.toList].length ≤ 1000000 := by simp; omega
      clear hs ht hls hy hz
      by_cases hr : r = inb
      · have hfin := Lib.hid (HY.out hr)
        clear HY HZ
        cases r <;> subst hr <;> (
          go_wp2_with (first
            | (go_at_call 15; refine hx.mono ?_; rintro e w1 ⟨rfl, rfl⟩)
            | (at_builtin; refine wpList_append_strs rfl _ _ rfl w.heap.size _ ls [s.data.toList] rfl ?_ (some ⟨wr.heap.size, 0, none⟩) 1 1 rfl rfl (fun e => by cases e) ?_ ?_ hl2 ?_))
          · exact World.ownsRow.alloc hown.out _
          · exact strs_one wr s
          · simp; omega
          intro v2 w2 ho2 hg2
          have hB2 := below_append (hb.alloc hB _) (show OwnS _ _ _ ls from World.ownsRow.alloc hown.out _) hg2 (Nat.le_refl _)
          have HO2 := Lib.hid ho2
          clear ho2 hg2 hx
          go_wp2
          go_roundw
          case rel => exact ⟨k + 1, ls ++ [s.data.toList], by omega, by go_num, hfin.out.symm, HO2.out, by simp; omega, hB2⟩
          case measure => simp [intOf]; omega)
      · have hfin := Lib.hid (HZ.out hr)
        clear HY HZ
        cases r <;> cases inb <;> first
          | (exact absurd rfl hr)
          | (go_wp2_with (go_at_call 15; refine hx.mono ?_; rintro e w1 ⟨rfl, rfl⟩)
             clear hx
             go_roundw
             case rel => exact ⟨k + 1, ls, by omega, by go_num, hfin.out.symm, hown.out, by omega, hb⟩
             case measure => simp [intOf]; omega)
    · have hk2 : k = ss.length := by omega
      subst hk2
      have hfin : Hid (ls = keepS (lists ss) (lists tt) inb) := by
        show _ = _
        rw [hls.out, List.take_length]
      clear hls
      obtain ⟨A1, cap1, rfl, hs1, _, _⟩ := hown.out.strs
      have hset := refset_any A1 (toBs ls) cap1 wr hs1 (by rw [toBs_len]; omega)
      rw [toBs_len, lists_toBs] at hset
      have HS := Lib.hid hset
      clear hset hs1
      go_wp2_with (go_at_call 10; refine HS.out.mono ?_; rintro e w1 ⟨v1, rfl, ho1, hb1⟩)
      go_ret
      rw [← hfin.out]
      exact ⟨_, rfl, ho1.more hB, hb.trans (hb1.mono hB)⟩

/-- Texts that are not far too many. -/
def lightB (ss : List ByteArray) : Bool := ss.all (fun s => decide (s.size ≤ 100)) && decide (ss.length ≤ 40)
theorem lightB_no {ss : List ByteArray} {k : Nat} (hk : k < ss.length) (h : 100 < ss[k].size) : lightB ss = false := by
  have : ¬ ss.all (fun s => decide (s.size ≤ 100)) = true := by
    rw [List.all_eq_true]
    intro ha
    have := ha ss[k] (List.getElem_mem _)
    simp at this
    omega
  unfold lightB
  rw [Bool.not_eq_true] at this
  rw [this]; simp
theorem lightB_yes {ss : List ByteArray} (h : ∀ j (hj : j < ss.length), ss[j].size ≤ 100) : lightB ss = decide (ss.length ≤ 40) := by
  unfold lightB
  have : ss.all (fun s => decide (s.size ≤ 100)) = true := by
    rw [List.all_eq_true]
    intro s hs
    obtain ⟨j, hj, rfl⟩ := List.getElem_of_mem hs
    simpa using h j hj
  rw [this]; simp
theorem lightB_len {ss : List ByteArray} (h : lightB ss = true) : ss.length ≤ 40 := by
  unfold lightB at h
  simp at h
  exact h.2

set_option maxRecDepth 100000 in
theorem light_any (A : Option Addr) (ss : List ByteArray) (cap : Nat) (w : World) (hs : Strs w w.heap.size A ss) (hn : ss.length ≤ 9223372036854775807) :
    Calls Try.prog 9 #[.slice A ss.length cap] w fun e w' => e = .returned (.bool (lightB ss)) ∧ w = w' := by
  go_enter Try.func9, Try.ntmps9
  go_wp2
  go_loop [3] (fun i => ∃ k : Nat, k ≤ ss.length ∧ i = .int .i64 (k : Int) ∧ Hid (∀ j (hj : j < ss.length), j < k → ss[j].size ≤ 100)) (fun i => ss.length - (intOf i).toNat)
  case atStart => exact ⟨0, Nat.zero_le _, rfl, fun j _ h => absurd h (by omega)⟩
  case round =>
    obtain ⟨k, hk, rfl, hall⟩ := hrel
    by_cases hlt : k < ss.length
    · obtain ⟨g, off, rfl, hg, hc⟩ := hs.at_ hlt
      have hno := Lib.hid (lightB_no hlt)
      have hyes : Hid (((ss[k].size : Int) ≤ 100) → ∀ j (hj : j < ss.length), j < k + 1 → ss[j].size ≤ 100) := by
        intro h j hj hjk
        by_cases he : j = k
        · subst he; omega
        · exact hall.out j hj (by omega)
      generalize ss[k] = s at *
      clear hs hall
      by_cases h3 : 100 < s.size
      · have hno2 := Lib.hid (hno.out (by omega))
        clear hno hyes
        go_wp2
        go_ret
        rw [hno2.out]
        exact ⟨rfl, rfl⟩
      · have hyes2 := Lib.hid (hyes.out (by omega))
        clear hno hyes
        go_wp2
        go_round
        case rel => exact ⟨k + 1, by omega, by go_num, hyes2⟩
        case measure => simp [intOf]; omega
    · have hk2 : k = ss.length := by omega
      subst hk2
      have hy := Lib.hid (lightB_yes (fun j hj => hall.out j hj hj))
      clear hall
      go_wp2
      go_ret
      rw [hy.out]
      exact ⟨by simp; omega, rfl⟩
end Go.Proofs.Ytekegomlodbohaa
