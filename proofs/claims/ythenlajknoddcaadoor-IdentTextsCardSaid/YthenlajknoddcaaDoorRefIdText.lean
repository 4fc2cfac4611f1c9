
/- The reference's Digits, Right, Text of ids. -/
import Derived.Test.YthenlajknoddcaaDoorIdEq
import Derived.Test.YthenlajknoddcaaDoorNameRight
namespace Go.Proofs.YthenlajknoddcaaDoor
open Go.RowKit
set_option linter.unusedVariables false

theorem digits_lt {n : Nat} (h : n < 10) : digits n = [48 + UInt8.ofNat n] := by
  unfold digits
  rw [dif_pos h]
theorem digits_ge {n : Nat} (h : ¬ n < 10) : digits n = digits (n / 10) ++ [48 + UInt8.ofNat (n % 10)] := by
  rw [digits, dif_neg h]
theorem digits_len (n : Nat) : (digits n).length ≤ n + 1 := by
  induction n using Nat.strongRecOn with
  | _ n ih =>
    by_cases h : n < 10
    · rw [digits_lt h]
      simp
    · rw [digits_ge h, List.length_append]
      have := ih (n / 10) (by omega)
      simp only [List.length_cons, List.length_nil]
      omega
theorem toB_app (a b : List UInt8) : toB a ++ toB b = toB (a ++ b) := by
  apply bytes_inj
  simp [toB]
set_option maxHeartbeats 2000000 in
set_option maxRecDepth 100000 in
theorem refdigit_any (n : Nat) (h : n < 10) (w : World) : Calls Tryd.prog 21 #[.int .i64 (n : Int)] w fun e w' => e = .returned (.string (toB [48 + UInt8.ofNat n])) ∧ w' = w := by
  have hc : n = 0 ∨ n = 1 ∨ n = 2 ∨ n = 3 ∨ n = 4 ∨ n = 5 ∨ n = 6 ∨ n = 7 ∨ n = 8 ∨ n = 9 := by omega
  rcases hc with rfl | rfl | rfl | rfl | rfl | rfl | rfl | rfl | rfl | rfl
  all_goals
    go_enter Tryd.func21, Tryd.ntmps21
    go_wp2
    go_ret
    exact ⟨rfl, rfl⟩
set_option maxHeartbeats 2000000 in
set_option maxRecDepth 100000 in
theorem refdigits_any : ∀ (m n : Nat), n < m → n ≤ 4611686018427387904 → ∀ w, Calls Tryd.prog 21 #[.int .i64 (n : Int)] w fun e w' => e = .returned (.string (toB (digits n))) ∧ w' = w
  | 0, n, h, _, w => absurd h (by omega)
  | m + 1, n, h, hb, w => by
    by_cases hs : n < 10
    · rw [digits_lt hs]
      exact refdigit_any n hs w
    · have c1 := fun w => refdigits_any m (n / 10) (by omega) (by omega) w
      have c2 := fun w => refdigit_any (n % 10) (Nat.mod_lt _ (by omega)) w
      rw [show ((n / 10 : Nat) : Int) = (n : Int) / 10 by omega] at c1
      rw [show ((n % 10 : Nat) : Int) = (n : Int) % 10 by omega] at c2
      have C1 := Lib.hid c1
      have C2 := Lib.hid c2
      clear c1 c2
      have hd : Hid (toB (digits (n / 10)) ++ toB [48 + UInt8.ofNat (n % 10)] = toB (digits n)) := by
        show _ = _
        rw [toB_app, ← digits_ge hs]
      have z1 : ¬ 9223372036854775807 < (toB (digits (n / 10))).size + (toB [48 + UInt8.ofNat (n % 10)]).size := by
        rw [toB_size, toB_size]
        have := digits_len (n / 10)
        simp only [List.length_cons, List.length_nil]
        omega
      have q1 : (10 : Int) ≤ (n : Int) := by omega
      have q2 : ¬ (n : Int) < 10 := by omega
      go_enter Tryd.func21, Tryd.ntmps21
      go_wp2_with fail
      refine (C1.out _).mono ?_
      rintro e w1 ⟨rfl, h1⟩
      subst h1
      go_wp2_with fail
      refine (C2.out _).mono ?_
      rintro e w1 ⟨rfl, h1⟩
      subst h1
      go_wp2
      go_ret
      rw [← hd.out]
      exact ⟨rfl, rfl⟩
set_option maxHeartbeats 2000000 in
set_option maxRecDepth 100000 in
theorem refiright_any (x : Im) (w : World) (ox : x.p.size ≤ 9223372036854775807) :
    Calls Tryd.prog 8 #[x.val] w fun e w' => e = .returned (.bool (okI (fun l => rightB (toB l)) x.key)) ∧ Below w.heap.size w w' := by
  obtain ⟨hb, hx⟩ := id_box w x
  unfold Im.val
  have HB := Lib.hid hb
  have c0 := id_c0 hx
  have c1 := id_c1 hx
  have CR := Lib.hid (fun w => refright_any x.p w ox)
  have hk : Hid (okI (fun l => rightB (toB l)) x.key = if x.p = ⟨#[]⟩ then decide (0 ≤ x.n ∧ x.n ≤ 2) else rightB x.p && decide (0 ≤ x.n ∧ x.n ≤ 1048576)) := by
    show _ = _
    unfold okI Im.key
    simp only [toB_of]
    by_cases h : x.p = ⟨#[]⟩
    · rw [if_pos h, if_pos (by rw [h])]
    · rw [if_neg h, if_neg fun e => h (bytes_inj (by rw [e]))]
  rw [hk.out]
  clear hb hx hk
  obtain ⟨p, n⟩ := x
  simp only at *
  by_cases h : p = ⟨#[]⟩
  · subst h
    rw [if_pos rfl]
    by_cases h1 : 0 ≤ n
    · by_cases h2 : n ≤ 2
      · have hv : decide (0 ≤ n ∧ n ≤ 2) = true := decide_eq_true ⟨h1, h2⟩
        rw [hv]
        have h3 : n ≥ 0 := h1
        go_enter Tryd.func8, Tryd.ntmps8
        go_wp2
        go_ret
        exact ⟨rfl, HB.out⟩
      · have hv : decide (0 ≤ n ∧ n ≤ 2) = false := decide_eq_false fun h => h2 h.2
        rw [hv]
        have h3 : n ≥ 0 := h1
        go_enter Tryd.func8, Tryd.ntmps8
        go_wp2
        go_ret
        exact ⟨rfl, HB.out⟩
    · have hv : decide (0 ≤ n ∧ n ≤ 2) = false := decide_eq_false fun h => h1 h.1
      rw [hv]
      have h3 : ¬ n ≥ 0 := h1
      go_enter Tryd.func8, Tryd.ntmps8
      go_wp2
      go_ret
      exact ⟨rfl, HB.out⟩
  · rw [if_neg h]
    have h0 := str_ne_empty h
    by_cases h4 : rightB p = true
    · rw [h4] at CR
      by_cases h1 : 0 ≤ n
      · by_cases h2 : n ≤ 1048576
        · have hv : (rightB p && decide (0 ≤ n ∧ n ≤ 1048576)) = true := by rw [h4, decide_eq_true ⟨h1, h2⟩]; rfl
          rw [hv]
          have h3 : n ≥ 0 := h1
          clear h4 hv
          go_enter Tryd.func8, Tryd.ntmps8
          go_wp2_with (go_at_call 20; refine (CR.out _).mono ?_; rintro e w1 ⟨rfl, rfl⟩)
          go_ret
          exact ⟨rfl, HB.out⟩
        · have hv : (rightB p && decide (0 ≤ n ∧ n ≤ 1048576)) = false := by rw [decide_eq_false fun h => h2 h.2, Bool.and_false]
          rw [hv]
          have h3 : n ≥ 0 := h1
          clear h4 hv
          go_enter Tryd.func8, Tryd.ntmps8
          go_wp2_with (go_at_call 20; refine (CR.out _).mono ?_; rintro e w1 ⟨rfl, rfl⟩)
          go_ret
          exact ⟨by show Ending.returned (Value.bool (decide (n ≤ 1048576))) = _; rw [decide_eq_false (by omega)], HB.out⟩
      · have hv : (rightB p && decide (0 ≤ n ∧ n ≤ 1048576)) = false := by rw [decide_eq_false fun h => h1 h.1, Bool.and_false]
        rw [hv]
        have h3 : ¬ n ≥ 0 := h1
        clear h4 hv
        go_enter Tryd.func8, Tryd.ntmps8
        go_wp2_with (go_at_call 20; refine (CR.out _).mono ?_; rintro e w1 ⟨rfl, rfl⟩)
        go_ret
        exact ⟨rfl, HB.out⟩
    · have h5 : rightB p = false := by simpa using h4
      rw [h5] at CR
      rw [h5, Bool.false_and]
      clear h4 h5
      go_enter Tryd.func8, Tryd.ntmps8
      go_wp2_with (go_at_call 20; refine (CR.out _).mono ?_; rintro e w1 ⟨rfl, rfl⟩)
      go_ret
      exact ⟨rfl, HB.out⟩
set_option maxHeartbeats 2000000 in
set_option maxRecDepth 100000 in
theorem refitext_any (x : Im) (w : World) (ox : x.p.size ≤ 1000000) :
    Calls Tryd.prog 9 #[x.val] w fun e w' => e = .returned (.string (toB (textI (fun l => rightB (toB l)) x.key))) ∧ Below w.heap.size w w' := by
  obtain ⟨hb, hx⟩ := id_box w x
  have HB := Lib.hid hb
  have HX := Lib.hid hx
  have CR := Lib.hid (refiright_any x (w.alloc (.cells #[.string x.p, .int .i64 x.n] 23)) (by omega))
  have c0 := id_c0 hx
  have c1 := id_c1 hx
  clear hb hx
  unfold textI
  cases hk : okI (fun l => rightB (toB l)) x.key
  · rw [hk] at CR
    unfold Im.val at CR ⊢
    rw [if_neg (by simp)]
    go_enter Tryd.func9, Tryd.ntmps9
    go_wp2_with fail
    refine CR.out.mono ?_
    rintro e w1 ⟨rfl, hb⟩
    have HF := Lib.hid (HB.out.trans (hb.mono HB.out.size))
    clear hb CR
    go_wp2
    go_ret
    exact ⟨rfl, HF.out⟩
  · rw [hk] at CR
    rw [if_pos rfl]
    have hn : 0 ≤ x.n ∧ x.n ≤ 1048576 := by
      unfold okI at hk
      split at hk
      · have := of_decide_eq_true hk
        show 0 ≤ x.key.2 ∧ x.key.2 ≤ 1048576
        omega
      · have := (Bool.and_eq_true_iff.1 hk).2
        exact of_decide_eq_true this
    obtain ⟨m, hm⟩ : ∃ m : Nat, x.n = (m : Int) := ⟨x.n.toNat, by omega⟩
    have CD := Lib.hid (fun w => refdigits_any (m + 1) m (by omega) (by omega) w)
    have hv : Hid (x.p ++ ⟨#[35]⟩ ++ toB (digits m) = toB (x.key.1 ++ 35 :: digits x.key.2.toNat)) := by
      show _ = _
      apply bytes_inj
      have e : x.key.2.toNat = m := by show x.n.toNat = m; omega
      rw [e, of_toB]
      simp [Im.key, toB]
    rw [← hv.out]
    unfold Im.val at CR ⊢
    rw [hm] at CR c1 ⊢
    rw [hm] at HB HX
    have HM := Lib.hid hm
    have hs0 : (⟨#[35]⟩ : ByteArray).size = 1 := rfl
    have z0 := digits_len m
    have z1 : ¬ 9223372036854775807 < x.p.size + 1 := by omega
    have z2 : ¬ 9223372036854775807 < x.p.size + 1 + (toB (digits m)).size := by rw [toB_size]; omega
    have z3 : ¬ 9223372036854775807 < (x.p ++ ⟨#[35]⟩).size + (toB (digits m)).size := by rw [toB_size, ByteArray.size_append, hs0]; omega
    clear hv hk hn hm
    go_enter Tryd.func9, Tryd.ntmps9
    go_wp2_with fail
    refine CR.out.mono ?_
    rintro e w1 ⟨rfl, hb⟩
    have HF := Lib.hid (HB.out.trans (hb.mono HB.out.size))
    have hx1 := HX.out.on hb
    have hq : ∀ q, Hid (Below w.heap.size w (w1.drewN q)) := fun q => below_drewN HF.out q
    have d0 := id_c0 hx1
    have d1 := id_c1 hx1
    rw [HM.out] at d1
    clear hb CR HF c0 c1
    go_wp2
    go_quiet ((go_at_call 21; exact Calls.quiet_of_same (CD.out _)))
    go_wp2
    go_ret
    exact ⟨rfl, (hq _).out⟩
end Go.Proofs.YthenlajknoddcaaDoor
