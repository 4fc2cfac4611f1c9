
/- Package path's Less: slices.Compare of names, strings.Compare, cmp.Or. -/
import Derived.Test.YtcjiipmageddhaaDoorPathMove
import Derived.Laws.Cover1
namespace Go.Proofs.YtcjiipmageddhaaDoor
open Go.RowKit
set_option linter.unusedVariables false

theorem compareBytes_lt : ∀ (a b : List UInt8), Lib.compareBytes a b < 0 ↔ a < b
  | [], [] => by simp [Lib.compareBytes]
  | [], _ :: _ => by simp [Lib.compareBytes]
  | _ :: _, [] => by simp [Lib.compareBytes]
  | a :: l, b :: m => by
    have ih := compareBytes_lt l m
    unfold Lib.compareBytes
    rw [List.cons_lt_cons_iff]
    by_cases h : a < b
    · simp [h]
    · by_cases k : b < a
      · have : a ≠ b := by rintro rfl; exact h k
        simp [h, k, this]
      · have : a = b := UInt8.le_antisymm (UInt8.not_lt.1 k) (UInt8.not_lt.1 h)
        simp [h, k, this, ih]
def cmpB (x y : List UInt8) : Int := if x = y then 0 else if x < y then -1 else 1
set_option maxHeartbeats 1000000 in
theorem cmpstr_any (s t : ByteArray) (x y : List UInt8) (hx : s.data.toList = x) (hy : t.data.toList = y) (w : World) :
    Calls Tryd.prog 83 #[.string s, .string t] w fun e w' => e = .returned (.int .i64 (cmpB x y)) ∧ w' = w := by
  have h1 : (s.toList == s.toList) = true := by simp
  have h2 : (t.toList == t.toList) = true := by simp
  have N1 : ∀ (z : ByteArray) w, Calls Tryd.prog 91 #[.string z] w fun e w' => e = .returned (.bool false) ∧ w' = w := by
    intro z w
    have h1 : (z.toList == z.toList) = true := by simp
    go_enter Tryd.func91, Tryd.ntmps91
    go_wp2
    go_ret
    exact ⟨rfl, rfl⟩
  have HN := Lib.hid N1
  have b1 : Op.bytesLess s.toList t.toList = decide (x < y) := by rw [bless_eqs, hx, hy]
  have b2 : Op.bytesLess t.toList s.toList = decide (y < x) := by rw [bless_eqs, hx, hy]
  have b3 : (s.toList == t.toList) = decide (x = y) := by
    rw [Bool.eq_iff_iff, beq_iff_eq, decide_eq_true_eq, toList_eq, toList_eq, hx, hy]
  clear N1 h1 h2
  rcases tri x y with h | h | h
  · have e : cmpB x y = -1 := by
      unfold cmpB
      rw [if_neg (by rintro rfl; exact List.lt_irrefl _ h), if_pos h]
    rw [e]
    rw [decide_eq_true h] at b1
    clear e b2 b3 hx hy h
    go_enter Tryd.func83, Tryd.ntmps83
    go_wp2_with fail
    refine (HN.out _ _).mono ?_
    rintro e w1 ⟨rfl, rfl⟩
    go_wp2_with fail
    refine (HN.out _ _).mono ?_
    rintro e w1 ⟨rfl, rfl⟩
    go_wp2
    go_ret
    exact ⟨rfl, rfl⟩
  · have e : cmpB x y = 0 := if_pos h
    rw [e]
    subst h
    rw [decide_eq_false (List.lt_irrefl _)] at b1 b2
    rw [decide_eq_true rfl] at b3
    clear e hx hy
    go_enter Tryd.func83, Tryd.ntmps83
    go_wp2_with fail
    refine (HN.out _ _).mono ?_
    rintro e w1 ⟨rfl, rfl⟩
    go_wp2_with fail
    refine (HN.out _ _).mono ?_
    rintro e w1 ⟨rfl, rfl⟩
    go_wp2
    go_ret
    exact ⟨rfl, rfl⟩
  · have e : cmpB x y = 1 := by
      unfold cmpB
      rw [if_neg (by rintro rfl; exact List.lt_irrefl _ h), if_neg (fun k => List.lt_irrefl _ (List.lt_trans h k))]
    rw [e]
    rw [decide_eq_false (fun k => List.lt_irrefl _ (List.lt_trans h k))] at b1
    rw [decide_eq_true h] at b2
    rw [decide_eq_false (by rintro rfl; exact List.lt_irrefl _ h)] at b3
    clear e hx hy h
    go_enter Tryd.func83, Tryd.ntmps83
    go_wp2_with fail
    refine (HN.out _ _).mono ?_
    rintro e w1 ⟨rfl, rfl⟩
    go_wp2_with fail
    refine (HN.out _ _).mono ?_
    rintro e w1 ⟨rfl, rfl⟩
    go_wp2
    go_ret
    exact ⟨rfl, rfl⟩
set_option maxHeartbeats 1000000 in
set_option maxRecDepth 100000 in
theorem or_any (b : Nat) (x y z : Int) (w : World) (h0 : w.cell? ⟨b, 0, none⟩ = some (.int .i64 x)) (h1 : w.cell? ⟨b, 1, none⟩ = some (.int .i64 y)) (hz : z = if x = 0 then y else x) :
    Calls Tryd.prog 72 #[.slice (some ⟨b, 0, none⟩) 2 2] w fun e w' => e = .returned (.int .i64 z) ∧ w' = w := by
  go_enter Tryd.func72, Tryd.ntmps72
  go_wp2
  go_loopw [8] (fun i wr => ∃ k : Nat, k ≤ 2 ∧ i = .int .i64 (k : Int) ∧ Hid ((1 ≤ k → x = 0) ∧ (2 ≤ k → y = 0)) ∧ wr = w) (fun i _ => 2 - (intOf i).toNat)
  case atStart => exact ⟨0, by omega, rfl, ⟨fun h => by omega, fun h => by omega⟩, rfl⟩
  case round =>
    obtain ⟨k, hk, rfl, hxy, rfl⟩ := hrel
    have hk3 : k = 0 ∨ k = 1 ∨ k = 2 := by omega
    rcases hk3 with rfl | rfl | rfl
    · by_cases hx : x = 0
      · subst hx
        clear hz h1 hxy
        go_wp2
        go_roundw
        case rel => exact ⟨1, by omega, by go_num, ⟨fun _ => by first | rfl | trivial, fun h => by omega⟩, by first | rfl | trivial⟩
        case measure => simp [intOf] <;> omega
      · have e : z = x := by rw [hz, if_neg hx]
        subst e
        have hb : (z == 0) = false := by simpa using hx
        have hb2 : (z != 0) = true := by simpa using hx
        clear hz h1 hxy
        go_wp2
        go_ret
        exact ⟨rfl, rfl⟩
    · have hx := hxy.out.1 (by omega)
      have e : z = y := by rw [hz, if_pos hx]
      subst e
      by_cases hy : z = 0
      · subst hy
        clear hz h0 hxy
        go_wp2
        go_roundw
        case rel => exact ⟨2, by omega, by go_num, ⟨fun _ => hx, fun h => by first | rfl | trivial⟩, by first | rfl | trivial⟩
        case measure => simp [intOf] <;> omega
      · have hb : (z == 0) = false := by simpa using hy
        have hb2 : (z != 0) = true := by simpa using hy
        clear hz h0 hxy
        go_wp2
        go_ret
        exact ⟨rfl, rfl⟩
    · have hx := hxy.out.1 (by omega)
      have hy := hxy.out.2 (by omega)
      have e : z = 0 := by rw [hz, if_pos hx, hy]
      subst e
      clear hz h0 h1 hxy
      go_wp2
      go_ret
      exact ⟨rfl, rfl⟩

theorem cmpB_lt (x y : List UInt8) : cmpB x y = 0 ↔ x = y := by
  unfold cmpB
  by_cases h : x = y
  · simp [h]
  · by_cases k : x < y <;> simp [h, k]
theorem cmpL_next {a b : List (List UInt8)} {i : Nat} (ha : i < a.length) (hb : i < b.length) : cmpL (a.drop i) (b.drop i) = if cmpB a[i] b[i] = 0 then cmpL (a.drop (i + 1)) (b.drop (i + 1)) else cmpB a[i] b[i] := by
  rw [cmpL_step ha hb]
  unfold cmpB
  by_cases h : a[i] = b[i]
  · simp [h]
  · by_cases k : a[i] < b[i] <;> simp [h, k]
set_option maxHeartbeats 1000000 in
set_option maxRecDepth 100000 in
theorem scompare_any (A A2 : Option Addr) (la lb : List (List UInt8)) (cap cap2 : Nat) (w : World) (c : Int) (hc : cmpL la lb = c) (hs : Strs w w.heap.size A (toBs la)) (ht : Strs w w.heap.size A2 (toBs lb)) (hn : la.length ≤ 1000000) (hn2 : lb.length ≤ 1000000) :
    Calls Tryd.prog 73 #[.slice A la.length cap, .slice A2 lb.length cap2] w fun e w' => e = .returned (.int .i64 c) ∧ w' = w := by
  have HS := Lib.hid hs
  have HT := Lib.hid ht
  have HC := Lib.hid hc
  clear hs ht hc
  go_enter Tryd.func73, Tryd.ntmps73
  go_wp2
  go_loopw [11] (fun i wr => ∃ k : Nat, k ≤ la.length ∧ i = .int .i64 (k : Int) ∧ Hid (k ≤ lb.length ∧ cmpL (la.drop k) (lb.drop k) = c) ∧ wr = w) (fun i _ => la.length - (intOf i).toNat)
  case atStart => exact ⟨0, by omega, rfl, ⟨Nat.zero_le _, HC.out⟩, rfl⟩
  case round =>
    obtain ⟨k, hk, rfl, hck, rfl⟩ := hrel
    obtain ⟨hkb, hcc⟩ := hck.out
    by_cases hlt : k < la.length
    · obtain ⟨g, off, rfl, hg, hcell⟩ := HS.out.at_ (k := k) (by rw [toBs_len]; exact hlt)
      have e1 : (toBs la)[k]'(by rw [toBs_len]; exact hlt) = toB la[k] := by simp [toBs]
      rw [e1] at hcell
      by_cases hlt2 : k < lb.length
      · obtain ⟨g2, off2, rfl, hg2, hcell2⟩ := HT.out.at_ (k := k) (by rw [toBs_len]; exact hlt2)
        have e2 : (toBs lb)[k]'(by rw [toBs_len]; exact hlt2) = toB lb[k] := by simp [toBs]
        rw [e2] at hcell2
        have hnx := cmpL_next hlt hlt2
        rw [hcc] at hnx
        have CC := Lib.hid (fun w => cmpstr_any (toB la[k]) (toB lb[k]) la[k] lb[k] (of_toB _) (of_toB _) w)
        obtain ⟨d, hd⟩ : ∃ d, cmpB la[k] lb[k] = d := ⟨_, rfl⟩
        rw [hd] at CC hnx
        have hq : ¬ ((lb.length : Int) ≤ (k : Int)) := by omega
        by_cases h0 : d = 0
        · subst h0
          rw [if_pos rfl] at hnx
          have hck2 : Hid (k + 1 ≤ lb.length ∧ cmpL (la.drop (k + 1)) (lb.drop (k + 1)) = c) := ⟨by omega, hnx.symm⟩
          generalize toB la[k] = x at *
          generalize toB lb[k] = y at *
          clear hck hkb hcc hnx hd e1 e2 hlt2
          go_wp2_with fail
          refine (CC.out _).mono ?_
          rintro e w1 ⟨rfl, rfl⟩
          go_wp2
          go_roundw
          case rel => exact ⟨k + 1, by omega, by go_num, hck2, by first | rfl | trivial⟩
          case measure => simp [intOf] <;> omega
        · rw [if_neg h0] at hnx
          subst hnx
          have hb : (c == 0) = false := by simpa using h0
          generalize toB la[k] = x at *
          generalize toB lb[k] = y at *
          clear hck hkb hcc hd e1 e2 hlt2
          go_wp2_with fail
          refine (CC.out _).mono ?_
          rintro e w1 ⟨rfl, rfl⟩
          go_wp2
          go_ret
          exact ⟨rfl, rfl⟩
      · have hq : ((lb.length : Int) ≤ (k : Int)) := by omega
        have e0 : lb.drop k = [] := List.drop_eq_nil_of_le (by omega)
        have hcf : c = 1 := by
          rw [← hcc, e0, List.drop_eq_getElem_cons hlt]
          rfl
        subst hcf
        clear hck hkb hcc e0 e1 hlt2
        go_wp2
        go_ret
        exact ⟨rfl, rfl⟩
    · obtain rfl : k = la.length := by omega
      have e0 : la.drop la.length = [] := List.drop_length
      rw [e0] at hcc
      by_cases hlt2 : la.length < lb.length
      · have hcf : c = -1 := by
          rw [← hcc, List.drop_eq_getElem_cons hlt2]
          rfl
        subst hcf
        have hq : (la.length : Int) < (lb.length : Int) := by omega
        clear hck hkb hcc e0 hlt2 hlt
        go_wp2
        go_ret
        exact ⟨rfl, rfl⟩
      · have hcf : c = 0 := by
          rw [← hcc, List.drop_eq_nil_of_le (by omega)]
          rfl
        subst hcf
        have hq : ¬ (la.length : Int) < (lb.length : Int) := by omega
        clear hck hkb hcc e0 hlt2 hlt
        go_wp2
        go_ret
        exact ⟨rfl, rfl⟩
end Go.Proofs.YtcjiipmageddhaaDoor
