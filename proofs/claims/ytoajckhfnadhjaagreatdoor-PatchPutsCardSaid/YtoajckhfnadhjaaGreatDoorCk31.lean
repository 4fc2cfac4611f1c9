/- Sets of texts, plainly: rising byte by byte, each once. append of strings to a row that the call made. name.Right, and the reference's Right. The reference's Digits, Right, Text of ids. Lines, plainly: which texts are lines; the text of lines; the lines of a text; where lines stand. The reference's Num answers a number's bytes; new blocks alone are made. The reference's Text and List. -/
import Derived.Lib.SlicesCompact
import Derived.Laws.AppendOwnNone
import Derived.OwnWalk
import Derived.Test.YtoajckhfnadhjaaGreatDoorShelf
import Derived.BigQuiet
import Derived.Deep.QuietTactic
import Derived.Shelf.Spec.BytesIndexFunc
import Derived.BigRegion
import Derived.Deep.RegionWith
import Derived.Test.YtoajckhfnadhjaaGreatDoorCk05
namespace Go.Proofs.YtoajckhfnadhjaaGreatDoor
set_option linter.unusedVariables false

theorem setS_snoc (l : List (List UInt8)) (x : List UInt8) : setS (l ++ [x]) = ins x (setS l) := by simp [setS]
/-- Where a text goes into a set: behind k texts below it. -/
theorem ins_at (x : List UInt8) : ∀ (l : List (List UInt8)) (k : Nat), k ≤ l.length → (∀ j (h : j < l.length), j < k → l[j] < x) →
    (∀ h : k < l.length, ¬ l[k] < x) → ins x l = if h : k < l.length then (if l[k] = x then l else l.take k ++ x :: l.drop k) else l ++ [x]
  | [], k, hk, _, _ => by simp at hk; subst hk; simp [ins]
  | y :: r, 0, _, _, h => by
    have h0 : ¬ y < x := h (by simp)
    simp only [ins, h0, if_false]
    simp
  | y :: r, k + 1, hk, h1, h2 => by
    have hy : y < x := h1 0 (by simp) (by omega)
    simp only [ins, hy, if_true]
    rw [ins_at x r k (by simpa using hk) (fun j h hj => h1 (j + 1) (by simpa using h) (by omega)) (fun h => h2 (by simpa using h))]
    by_cases hkl : k < r.length
    · simp only [hkl, dif_pos, List.length_cons, Nat.add_lt_add_iff_right, List.getElem_cons_succ]
      split <;> simp
    · simp [hkl]
theorem ins_found {x : List UInt8} {l : List (List UInt8)} {k : Nat} (hk : k < l.length) (h1 : ∀ j (h : j < l.length), j < k → l[j] < x) (h2 : l[k] = x) : ins x l = l := by
  rw [ins_at x l k (by omega) h1 (fun _ => by rw [h2]; exact t_irrefl x), dif_pos hk, if_pos h2]
theorem ins_new {x : List UInt8} {l : List (List UInt8)} {k : Nat} (hk : k ≤ l.length) (h1 : ∀ j (h : j < l.length), j < k → l[j] < x) (h2 : ∀ h : k < l.length, ¬ l[k] < x ∧ l[k] ≠ x) : ins x l = l.take k ++ x :: l.drop k := by
  rw [ins_at x l k hk h1 (fun h => (h2 h).1)]
  by_cases h : k < l.length
  · rw [dif_pos h, if_neg (h2 h).2]
  · rw [dif_neg h]
    obtain rfl : k = l.length := by omega
    simp
end Go.Proofs.YtoajckhfnadhjaaGreatDoor
namespace Go.Proofs.YtoajckhfnadhjaaGreatDoor
open Go.RowKit
set_option linter.unusedVariables false

theorem own_made (w : World) (B : Nat) (hB : B ≤ w.heap.size) : OwnS (w.alloc (.cells #[] 9)) B (.slice (some ⟨w.heap.size, 0, none⟩) 0 0) [] :=
  w.ownsRow_made #[] 0 hB (Nat.zero_le _) rfl
end Go.Proofs.YtoajckhfnadhjaaGreatDoor
namespace Go.Proofs.YtoajckhfnadhjaaGreatDoor
open Go.RowKit
set_option linter.unusedVariables false

set_option maxRecDepth 100000 in
/-- The reference's letter. -/
theorem letter_any (c : UInt8) (w : World) :
    Calls Tryz.prog 60 #[.int .u8 (c.toNat : Int)] w fun e w' => e = .returned (.bool (nameL.data.toList.contains c)) ∧ w = w' := by
  obtain ⟨L, hL⟩ : ∃ L, L = nameL := ⟨_, rfl⟩
  have hsz : L.size = 39 := by rw [hL]; rfl
  have hL2 : (⟨#[97, 98, 99, 100, 101, 102, 103, 104, 105, 106, 107, 108, 109, 110, 111, 112, 113, 114, 115, 116, 117, 118, 119, 120, 121, 122, 48, 49, 50, 51, 52, 53, 54, 55, 56, 57, 46, 95, 45]⟩ : ByteArray) = L := by rw [hL]; rfl
  rw [← hL]
  clear hL
  go_enter Tryz.func60, Tryz.ntmps60
  go_wp2
  go_loop [4] (fun i => ∃ k : Nat, k ≤ L.size ∧ i = .int .i64 (k : Int) ∧ Hid (∀ j (hj : j < L.size), j < k → L[j] ≠ c)) (fun i => L.size - (intOf i).toNat)
  case atStart => exact ⟨0, Nat.zero_le _, rfl, fun j _ h => absurd h (by omega)⟩
  case round =>
    obtain ⟨k, hk, rfl, hall⟩ := hrel
    by_cases hlt : k < L.size
    · by_cases he : L[k] = c
      · have hyes : Hid (decide (c ∈ L.data) = true) := by
          show _ = _
          rw [decide_eq_true_eq, ← Array.mem_toList_iff, ← he]
          exact List.getElem_mem (l := L.data.toList) (by simpa using hlt)
        have hq : ((L[k].toNat : Int) == (c.toNat : Int)) = true := by rw [he]; simp
        clear hall he
        go_wp2
        go_ret
        rw [hyes.out]
        exact ⟨rfl, rfl⟩
      · have hq : ((L[k].toNat : Int) == (c.toNat : Int)) = false := by
          rw [beq_eq_false_iff_ne]
          intro h
          exact he (UInt8.toNat_inj.1 (by omega))
        have hall2 : Hid (∀ j (hj : j < L.size), j < k + 1 → L[j] ≠ c) := by
          intro j hj hjk
          by_cases h : j = k
          · subst h; exact he
          · exact hall.out j hj (by omega)
        clear hall
        go_wp2
        go_round
        case rel => exact ⟨k + 1, by omega, by go_num, hall2⟩
        case measure => simp [intOf]; omega
    · have hk2 : k = L.size := by omega
      subst hk2
      have hno : Hid (decide (c ∈ L.data) = false) := by
        show _ = _
        rw [decide_eq_false_iff_not, ← Array.mem_toList_iff]
        intro h
        obtain ⟨j, hj, e⟩ := List.getElem_of_mem h
        exact hall.out j (by simpa using hj) (by simpa using hj) e
      clear hall
      go_wp2
      go_ret
      rw [hno.out]
      exact ⟨rfl, rfl⟩

set_option maxRecDepth 100000 in
theorem refright_any (s : ByteArray) (w : World) (hs : s.size ≤ 9223372036854775807) :
    Calls Tryz.prog 26 #[.string s] w fun e w' => e = .returned (.bool (rightB s)) ∧ w = w' := by
  go_enter Tryz.func26, Tryz.ntmps26
  go_wp2
  go_loop [3] (fun i => ∃ k : Nat, k ≤ s.size ∧ i = .int .i64 (k : Int) ∧ Hid (∀ j (hj : j < s.size), j < k → nameL.data.toList.contains s[j] = true)) (fun i => s.size - (intOf i).toNat)
  case atStart => exact ⟨0, Nat.zero_le _, rfl, fun j _ h => absurd h (by omega)⟩
  case round =>
    obtain ⟨k, hk, rfl, hall⟩ := hrel
    by_cases hlt : k < s.size
    · have hl := letter_any s[k]
      by_cases hin : nameL.data.toList.contains s[k] = true
      · rw [hin] at hl
        have hyes : Hid (∀ j (hj : j < s.size), j < k + 1 → nameL.data.toList.contains s[j] = true) := by
          intro j hj hjk
          by_cases hjk2 : j = k
          · subst hjk2; exact hin
          · exact hall.out j hj (by omega)
        clear hall hin
        go_wp2_with (go_at_call 60; refine (hl _).mono ?_; rintro e w1 ⟨rfl, rfl⟩)
        go_round
        case rel => exact ⟨k + 1, by omega, by go_num, hyes⟩
        case measure => simp [intOf]; omega
      · have hin2 : nameL.data.toList.contains s[k] = false := by simpa using hin
        rw [hin2] at hl
        have hno : Hid (rightB s = false) := by
          show _ = _
          unfold rightB
          rw [allIn_no hlt hin2]
          simp
        clear hall hin hin2
        go_wp2_with (go_at_call 60; refine (hl _).mono ?_; rintro e w1 ⟨rfl, rfl⟩)
        go_ret
        rw [hno.out]
        exact ⟨rfl, rfl⟩
    · have hk2 : k = s.size := by omega
      subst hk2
      have hyes := allIn_yes fun j hj => hall.out j hj hj
      clear hall
      by_cases h1 : s.size < 1
      · have hr : Hid (rightB s = false) := by show _ = _; simp [rightB]; omega
        clear hyes
        go_wp2
        go_ret
        rw [hr.out]
        exact ⟨rfl, rfl⟩
      · by_cases h2 : 40 < s.size
        · have hr : Hid (rightB s = false) := by show _ = _; simp [rightB]; omega
          clear hyes
          go_wp2
          go_ret
          rw [hr.out]
          exact ⟨rfl, rfl⟩
        · by_cases h3 : s = ⟨#[46]⟩
          · have hr : Hid (rightB s = false) := by rw [h3]; show _ = _; decide
            subst h3
            clear hyes
            go_wp2
            go_ret
            rw [hr.out]
            exact ⟨rfl, rfl⟩
          · by_cases h4 : s = ⟨#[46, 46]⟩
            · have hr : Hid (rightB s = false) := by rw [h4]; show _ = _; decide
              subst h4
              clear hyes
              go_wp2
              go_ret
              rw [hr.out]
              exact ⟨rfl, rfl⟩
            · have hr : Hid (rightB s = true) := by show _ = _; rw [rightB_full (by omega) (by omega) h3 h4]; exact hyes
              have e3 := ne_toList (l := [46]) h3
              have e4 := ne_toList (l := [46, 46]) h4
              have b3 := ne_beq (l := [46]) h3
              have b4 := ne_beq (l := [46, 46]) h4
              clear hyes h3 h4
              go_wp2
              go_ret
              rw [hr.out]
              exact ⟨rfl, rfl⟩
end Go.Proofs.YtoajckhfnadhjaaGreatDoor
namespace Go.Proofs.YtoajckhfnadhjaaGreatDoor
open Go.RowKit
set_option linter.unusedVariables false

set_option maxHeartbeats 2000000 in
set_option maxRecDepth 100000 in
theorem refdigit_any (n : Nat) (h : n < 10) (w : World) : Calls Tryz.prog 104 #[.int .i64 (n : Int)] w fun e w' => e = .returned (.string (toB [48 + UInt8.ofNat n])) ∧ w' = w := by
  have hc : n = 0 ∨ n = 1 ∨ n = 2 ∨ n = 3 ∨ n = 4 ∨ n = 5 ∨ n = 6 ∨ n = 7 ∨ n = 8 ∨ n = 9 := by omega
  rcases hc with rfl | rfl | rfl | rfl | rfl | rfl | rfl | rfl | rfl | rfl
  all_goals
    go_enter Tryz.func104, Tryz.ntmps104
    go_wp2
    go_ret
    exact ⟨rfl, rfl⟩
set_option maxHeartbeats 2000000 in
set_option maxRecDepth 100000 in
theorem refdigits_any : ∀ (m n : Nat), n < m → n ≤ 4611686018427387904 → ∀ w, Calls Tryz.prog 104 #[.int .i64 (n : Int)] w fun e w' => e = .returned (.string (toB (digits n))) ∧ w' = w
  | 0, n, h, _, w => absurd h (by omega)
  | m + 1, n, h, hb, w => by
    by_cases hs : n < 10
    · rw [digits_lt hs]
      exact refdigit_any n hs w
    · have c1 := fun w => refdigits_any m (n / 10) (by omega) (by omega) w
      have c2 := fun w => refdigit_any (n % 10) (Nat.mod_lt _ (by omega)) w
      rw [show ((n / 10 : Nat) : Int) = (n : Int) / 10 by omega] at c1
      rw [show ((n % 10 : Nat) : Int) = (n : Int) % 10 by omega] at c2
      have C1 := Lib.hid c1
      have C2 := Lib.hid c2
      clear c1 c2
      have hd : Hid (toB (digits (n / 10)) ++ toB [48 + UInt8.ofNat (n % 10)] = toB (digits n)) := by
        show _ = _
        rw [toB_app, ← digits_ge hs]
      have z1 : ¬ 9223372036854775807 < (toB (digits (n / 10))).size + (toB [48 + UInt8.ofNat (n % 10)]).size := by
        rw [toB_size, toB_size]
        have := digits_len (n / 10)
        simp only [List.length_cons, List.length_nil]
        omega
      have q1 : (10 : Int) ≤ (n : Int) := by omega
      have q2 : ¬ (n : Int) < 10 := by omega
      go_enter Tryz.func104, Tryz.ntmps104
      go_wp2_with fail
      refine (C1.out _).mono ?_
      rintro e w1 ⟨rfl, h1⟩
      subst h1
      go_wp2_with fail
      refine (C2.out _).mono ?_
      rintro e w1 ⟨rfl, h1⟩
      subst h1
      go_wp2
      go_ret
      rw [← hd.out]
      exact ⟨rfl, rfl⟩
set_option maxHeartbeats 2000000 in
set_option maxRecDepth 100000 in
theorem refiright_any (x : Im) (w : World) (ox : x.p.size ≤ 9223372036854775807) :
    Calls Tryz.prog 103 #[x.val] w fun e w' => e = .returned (.bool (okI (fun l => rightB (toB l)) x.key)) ∧ Below w.heap.size w w' := by
  obtain ⟨hb, hx⟩ := id_box w x
  unfold Im.val
  have HB := Lib.hid hb
  have c0 := id_c0 hx
  have c1 := id_c1 hx
  have CR := Lib.hid (fun w => refright_any x.p w ox)
  have hk : Hid (okI (fun l => rightB (toB l)) x.key = if x.p = ⟨#[]⟩ then decide (0 ≤ x.n ∧ x.n ≤ 2) else rightB x.p && decide (0 ≤ x.n ∧ x.n ≤ 1048576)) := by
    show _ = _
    unfold okI Im.key
    simp only [toB_of]
    by_cases h : x.p = ⟨#[]⟩
    · rw [if_pos h, if_pos (by rw [h])]
    · rw [if_neg h, if_neg fun e => h (bytes_inj (by rw [e]))]
  rw [hk.out]
  clear hb hx hk
  obtain ⟨p, n⟩ := x
  simp only at *
  by_cases h : p = ⟨#[]⟩
  · subst h
    rw [if_pos rfl]
    by_cases h1 : 0 ≤ n
    · by_cases h2 : n ≤ 2
      · have hv : decide (0 ≤ n ∧ n ≤ 2) = true := decide_eq_true ⟨h1, h2⟩
        rw [hv]
        have h3 : n ≥ 0 := h1
        go_enter Tryz.func103, Tryz.ntmps103
        go_wp2
        go_ret
        exact ⟨rfl, HB.out⟩
      · have hv : decide (0 ≤ n ∧ n ≤ 2) = false := decide_eq_false fun h => h2 h.2
        rw [hv]
        have h3 : n ≥ 0 := h1
        go_enter Tryz.func103, Tryz.ntmps103
        go_wp2
        go_ret
        exact ⟨rfl, HB.out⟩
    · have hv : decide (0 ≤ n ∧ n ≤ 2) = false := decide_eq_false fun h => h1 h.1
      rw [hv]
      have h3 : ¬ n ≥ 0 := h1
      go_enter Tryz.func103, Tryz.ntmps103
      go_wp2
      go_ret
      exact ⟨rfl, HB.out⟩
  · rw [if_neg h]
    have h0 := str_ne_empty h
    by_cases h4 : rightB p = true
    · rw [h4] at CR
      by_cases h1 : 0 ≤ n
      · by_cases h2 : n ≤ 1048576
        · have hv : (rightB p && decide (0 ≤ n ∧ n ≤ 1048576)) = true := by rw [h4, decide_eq_true ⟨h1, h2⟩]; rfl
          rw [hv]
          have h3 : n ≥ 0 := h1
          clear h4 hv
          go_enter Tryz.func103, Tryz.ntmps103
          go_wp2_with (go_at_call 26; refine (CR.out _).mono ?_; rintro e w1 ⟨rfl, rfl⟩)
          go_ret
          exact ⟨rfl, HB.out⟩
        · have hv : (rightB p && decide (0 ≤ n ∧ n ≤ 1048576)) = false := by rw [decide_eq_false fun h => h2 h.2, Bool.and_false]
          rw [hv]
          have h3 : n ≥ 0 := h1
          clear h4 hv
          go_enter Tryz.func103, Tryz.ntmps103
          go_wp2_with (go_at_call 26; refine (CR.out _).mono ?_; rintro e w1 ⟨rfl, rfl⟩)
          go_ret
          exact ⟨by show Ending.returned (Value.bool (decide (n ≤ 1048576))) = _; rw [decide_eq_false (by omega)], HB.out⟩
      · have hv : (rightB p && decide (0 ≤ n ∧ n ≤ 1048576)) = false := by rw [decide_eq_false fun h => h1 h.1, Bool.and_false]
        rw [hv]
        have h3 : ¬ n ≥ 0 := h1
        clear h4 hv
        go_enter Tryz.func103, Tryz.ntmps103
        go_wp2_with (go_at_call 26; refine (CR.out _).mono ?_; rintro e w1 ⟨rfl, rfl⟩)
        go_ret
        exact ⟨rfl, HB.out⟩
    · have h5 : rightB p = false := by simpa using h4
      rw [h5] at CR
      rw [h5, Bool.false_and]
      clear h4 h5
      go_enter Tryz.func103, Tryz.ntmps103
      go_wp2_with (go_at_call 26; refine (CR.out _).mono ?_; rintro e w1 ⟨rfl, rfl⟩)
      go_ret
      exact ⟨rfl, HB.out⟩
set_option maxHeartbeats 2000000 in
set_option maxRecDepth 100000 in
theorem refitext_any (x : Im) (w : World) (ox : x.p.size ≤ 1000000) :
    Calls Tryz.prog 75 #[x.val] w fun e w' => e = .returned (.string (toB (textI (fun l => rightB (toB l)) x.key))) ∧ Below w.heap.size w w' := by
  obtain ⟨hb, hx⟩ := id_box w x
  have HB := Lib.hid hb
  have HX := Lib.hid hx
  have CR := Lib.hid (refiright_any x (w.alloc (.cells #[.string x.p, .int .i64 x.n] 40)) (by omega))
  have c0 := id_c0 hx
  have c1 := id_c1 hx
  clear hb hx
  unfold textI
  cases hk : okI (fun l => rightB (toB l)) x.key
  · rw [hk] at CR
    unfold Im.val at CR ⊢
    rw [if_neg (by simp)]
    go_enter Tryz.func75, Tryz.ntmps75
    go_wp2_with fail
    refine CR.out.mono ?_
    rintro e w1 ⟨rfl, hb⟩
    have HF := Lib.hid (HB.out.trans (hb.mono HB.out.size))
    clear hb CR
    go_wp2
    go_ret
    exact ⟨rfl, HF.out⟩
  · rw [hk] at CR
    rw [if_pos rfl]
    have hn : 0 ≤ x.n ∧ x.n ≤ 1048576 := by
      unfold okI at hk
      split at hk
      · have := of_decide_eq_true hk
        show 0 ≤ x.key.2 ∧ x.key.2 ≤ 1048576
        omega
      · have := (Bool.and_eq_true_iff.1 hk).2
        exact of_decide_eq_true this
    obtain ⟨m, hm⟩ : ∃ m : Nat, x.n = (m : Int) := ⟨x.n.toNat, by omega⟩
    have CD := Lib.hid (fun w => refdigits_any (m + 1) m (by omega) (by omega) w)
    have hv : Hid (x.p ++ ⟨#[35]⟩ ++ toB (digits m) = toB (x.key.1 ++ 35 :: digits x.key.2.toNat)) := by
      show _ = _
      apply bytes_inj
      have e : x.key.2.toNat = m := by show x.n.toNat = m; omega
      rw [e, of_toB]
      simp [Im.key, toB]
    rw [← hv.out]
    unfold Im.val at CR ⊢
    rw [hm] at CR c1 ⊢
    rw [hm] at HB HX
    have HM := Lib.hid hm
    have hs0 : (⟨#[35]⟩ : ByteArray).size = 1 := rfl
    have z0 := digits_len m
    have z1 : ¬ 9223372036854775807 < x.p.size + 1 := by omega
    have z2 : ¬ 9223372036854775807 < x.p.size + 1 + (toB (digits m)).size := by rw [toB_size]; omega
    have z3 : ¬ 9223372036854775807 < (x.p ++ ⟨#[35]⟩).size + (toB (digits m)).size := by rw [toB_size, ByteArray.size_append, hs0]; omega
    clear hv hk hn hm
    go_enter Tryz.func75, Tryz.ntmps75
    go_wp2_with fail
    refine CR.out.mono ?_
    rintro e w1 ⟨rfl, hb⟩
    have HF := Lib.hid (HB.out.trans (hb.mono HB.out.size))
    have hx1 := HX.out.on hb
    have hq : ∀ q, Hid (Below w.heap.size w (w1.drewN q)) := fun q => below_drewN HF.out q
    have d0 := id_c0 hx1
    have d1 := id_c1 hx1
    rw [HM.out] at d1
    clear hb CR HF c0 c1
    go_wp2
    go_quiet ((go_at_call 104; exact Calls.quiet_of_same (CD.out _)))
    go_wp2
    go_ret
    exact ⟨rfl, (hq _).out⟩
end Go.Proofs.YtoajckhfnadhjaaGreatDoor
namespace Go.Proofs.YtoajckhfnadhjaaGreatDoor
set_option linter.unusedVariables false

theorem decode_rune (s : ByteArray) (i : Nat) : (Utf8.decode s i).1 ≤ 2097151 := by
  unfold Utf8.decode
  dsimp only
  have h : ∀ k, (s.get! (i + k)).toNat < 256 := fun k => UInt8.toNat_lt _
  have h0 := h 0
  rw [Nat.add_zero] at h0
  have h1 := h 1
  have h2 := h 2
  have h3 := h 3
  repeat' split
  all_goals simp [Utf8.runeError]
  all_goals omega
end Go.Proofs.YtoajckhfnadhjaaGreatDoor
namespace Go.Proofs.YtoajckhfnadhjaaGreatDoor
open Go.RowKit
set_option linter.unusedVariables false

/-- One byte in a block, as a string. -/
theorem one_string (w : World) (g : Nat) (x : Int) (hx : w.cell? ⟨g, 0, none⟩ = some (.int .u8 x)) (h0 : 0 ≤ x) (h1 : x ≤ 255) :
    (convert 100 9 (.slice (some ⟨g, 0, none⟩) 1 1)).run Tryz.prog w = .ok (.string ⟨#[UInt8.ofNat x.toNat]⟩) w := by
  refine run_convert_bytes_back w _ _ _ _ 1 [UInt8.ofNat x.toNat] Tryz.underlying100 Tryz.underlying5 Tryz.underlying9 fun j hj => ?_
  obtain rfl : j = 0 := by simp at hj; omega
  rw [show (⟨g, 0, none⟩ : Addr).add 0 = ⟨g, 0, none⟩ from rfl, hx]
  simp [UInt8.toNat_ofNat']
  omega

theorem bytes_cons (b : UInt8) (l : List UInt8) : (⟨#[b]⟩ ++ ⟨l.toArray⟩ : ByteArray) = ⟨(b :: l).toArray⟩ := by
  apply ByteArray.ext
  simp

set_option maxRecDepth 100000 in
theorem refnum_small (n : Int) (w : World) (h0 : 0 ≤ n) (h1 : n < 128) :
    Calls Tryz.prog 74 #[.int .u64 n] w fun e w' => e = .returned (.string ⟨#[UInt8.ofNat n.toNat]⟩) ∧ Below w.heap.size w w' := by
  have hs := one_string (w.alloc (.cells #[.int .u8 n] 5)) w.heap.size n (by simp) h0 (by omega)
  go_enter Tryz.func74, Tryz.ntmps74
  go_wp2
  go_ret
  exact ⟨rfl, (Below.refl _ _).alloc (Nat.le_refl _) _⟩

set_option maxRecDepth 100000 in
theorem refnum_big (f : Nat) (ih : ∀ (n : Int) (w : World), 0 ≤ n → Hid (n ≤ 18446744073709551615) → Hid (n.toNat < 128 ^ (f + 1)) → Calls Tryz.prog 74 #[.int .u64 n] w fun e w' => e = .returned (.string ⟨(numF f n.toNat).toArray⟩) ∧ Below w.heap.size w w')
    (n : Int) (w : World) (hf : f ≤ 20) (h0 : 128 ≤ n) (hm : Hid (n ≤ 18446744073709551615)) (h1 : Hid (n.toNat < 128 ^ (f + 2))) :
    Calls Tryz.prog 74 #[.int .u64 n] w fun e w' => e = .returned (.string ⟨(numF (f + 1) n.toNat).toArray⟩) ∧ Below w.heap.size w w' := by
  have IH := Lib.hid ih
  clear ih
  have h2 : Hid ((n / 128).toNat < 128 ^ (f + 1)) := by
    have := div_pow n.toNat f h1.out
    have e : (n / 128).toNat = n.toNat / 128 := by omega
    show _ < _
    rw [e]; exact this
  have e1 : n.tmod 128 = n % 128 := Int.tmod_eq_emod_of_nonneg (by omega)
  have e2 : n.tdiv 128 = n / 128 := Int.tdiv_eq_ediv_of_nonneg (by omega)
  have e3 : IntKind.u64.wrap (128 + n % 128) = 128 + n % 128 := IntWalk.u64_in _ ⟨by omega, by omega⟩
  have e4 : IntKind.u8.wrap (128 + n % 128) = 128 + n % 128 := IntWalk.u8_in _ ⟨by omega, by omega⟩
  have e5 : IntKind.u64.wrap (n / 128) = n / 128 := IntWalk.u64_in _ ⟨by omega, by have := hm.out; omega⟩
  obtain ⟨b, hs, hbl⟩ : ∃ b : UInt8, (∀ (W : World) (g : Nat), W.cell? ⟨g, 0, none⟩ = some (.int .u8 (128 + n % 128)) → (convert 100 9 (.slice (some ⟨g, 0, none⟩) 1 1)).run Tryz.prog W = .ok (.string ⟨#[b]⟩) W) ∧
      Hid (numF (f + 1) n.toNat = b :: numF f (n / 128).toNat) :=
    ⟨UInt8.ofNat (128 + n % 128).toNat, fun W g h => one_string W g (128 + n % 128) h (by omega) (by omega), by
      show _ = _
      rw [numF_ge f n.toNat (by omega), show (n / 128).toNat = n.toNat / 128 from by omega, show (128 + n % 128).toNat = 128 + n.toNat % 128 from by omega]⟩
  have hq : 0 ≤ n / 128 := by omega
  have hm2 : Hid (n / 128 ≤ 18446744073709551615) := by
    have := hm.out
    show _ ≤ _
    omega
  have hlen := numF_len f (n / 128).toNat
  have IH2 : ∀ (W : World), Calls Tryz.prog 74 #[.int .u64 (n / 128)] W fun e w' => e = .returned (.string ⟨(numF f (n / 128).toNat).toArray⟩) ∧ Below W.heap.size W w' := fun W => IH.out _ W hq hm2 h2
  generalize numF f (n / 128).toNat = l at hlen hbl IH2
  have IH3 := Lib.hid IH2
  clear IH IH2
  go_enter Tryz.func74, Tryz.ntmps74
  go_wp2
  go_region_with (go_at_call 74; refine (IH3.out _).mono ?_; rintro e w1 ⟨rfl, hb⟩; have hc1 := @Below.cell _ _ _ hb ⟨w.heap.size, 0, none⟩)
  all_goals
    clear hc1
    have hb2 : Below w.heap.size w w1 := by
      first
        | exact ((Below.refl _ w).alloc (Nat.le_refl _) _).drew.trans (hb.mono (by simp))
        | exact (Below.refl _ w).drew.trans (hb.mono (by simp))
    have hsz := hb2.size
    go_wp2
    go_ret
    rw [hbl.out]
    refine ⟨by rw [bytes_cons]; rfl, ?_⟩
    first
      | exact hb2
      | exact hb2.alloc hsz _
theorem refnum_f : ∀ (f : Nat) (n : Int) (w : World), f ≤ 20 → 0 ≤ n → Hid (n ≤ 18446744073709551615) → Hid (n.toNat < 128 ^ (f + 1)) →
    Calls Tryz.prog 74 #[.int .u64 n] w fun e w' => e = .returned (.string ⟨(numF f n.toNat).toArray⟩) ∧ Below w.heap.size w w'
  | 0, n, w, _, h0, _, h => by
    have hl : n < 128 := by have := h.out; simp at this; omega
    rw [numF_lt 0 n.toNat (by omega)]
    exact refnum_small n w h0 hl
  | f + 1, n, w, hf, h0, hm, h => by
    by_cases hl : n < 128
    · rw [numF_lt _ n.toNat (by omega)]
      exact refnum_small n w h0 hl
    · exact refnum_big f (fun n w a c b => refnum_f f n w (by omega) a c b) n w (by omega) (by omega) hm h

theorem refnum_any (n : Int) (w : World) (h0 : 0 ≤ n) (h1 : n ≤ 18446744073709551615) :
    Calls Tryz.prog 74 #[.int .u64 n] w fun e w' => e = .returned (.string ⟨(numB n.toNat).toArray⟩) ∧ Below w.heap.size w w' :=
  refnum_f 9 n w (by omega) h0 h1 (u64_pow _ (by omega))
end Go.Proofs.YtoajckhfnadhjaaGreatDoor
namespace Go.Proofs.YtoajckhfnadhjaaGreatDoor
open Go.RowKit
set_option linter.unusedVariables false

theorem bytes_append (l : List UInt8) (s : ByteArray) : (⟨l.toArray⟩ ++ s : ByteArray) = ⟨(l ++ s.data.toList).toArray⟩ := by
  apply ByteArray.ext
  simp

set_option maxRecDepth 100000 in
theorem reftext_any (s : ByteArray) (w : World) (hs : s.size ≤ 140737488351232) :
    Calls Tryz.prog 47 #[.string s] w fun e w' => e = .returned (.string ⟨(textB s.data.toList).toArray⟩) ∧ Below w.heap.size w w' := by
  have hl := numB_len s.size
  go_enter Tryz.func47, Tryz.ntmps47
  go_wp2_with (go_at_call 74; refine (refnum_any _ _ (by omega) (by omega)).mono ?_; rintro e w1 ⟨rfl, hb1⟩)
  go_ret
  refine ⟨?_, hb1⟩
  rw [bytes_append]
  rfl

set_option maxRecDepth 100000 in
theorem reflist_any (A : Option Addr) (ss : List ByteArray) (cap : Nat) (w : World) (hs : Strs w w.heap.size A ss) (hn : ss.length ≤ 140737488351232)
    (hlen : (numB ss.length).length + (textsB (lists ss)).length ≤ 140737488351232) :
    Calls Tryz.prog 48 #[.slice A ss.length cap] w fun e w' => e = .returned (.string ⟨(listB (lists ss)).toArray⟩) ∧ Below w.heap.size w w' := by
  go_enter Tryz.func48, Tryz.ntmps48
  go_wp2_with (go_at_call 74; refine (refnum_any _ _ (by omega) (by omega)).mono ?_; rintro e w1 ⟨rfl, hb1⟩)
  go_loopw [3, 4] (fun x i wr => ∃ k : Nat, k ≤ ss.length ∧ i = .int .i64 (k : Int) ∧ x = .string ⟨(numB ss.length ++ textsB (lists (ss.take k))).toArray⟩ ∧ Below w.heap.size w wr)
    (fun _ i _ => ss.length - (intOf i).toNat)
  case atStart => exact ⟨0, Nat.zero_le _, rfl, by simp [lists, textsB], hb1⟩
  case round =>
    obtain ⟨k, hk, rfl, rfl, hb⟩ := hrel
    have hle := texts_take_le ss k
    by_cases hlt : k < ss.length
    · have hs1 := hs.below hb
      obtain ⟨g, off, rfl, hg, hc⟩ := hs1.at_ hlt
      clear hs1
      have hf := lists_take ss k hlt
      have hle2 := texts_take_le ss (k + 1)
      rw [hf] at hle2
      have HF := Lib.hid hf
      clear hf
      generalize hs' : ss[k] = s at *
      have e : s.data.toList.length = s.size := by simp
      have htb : (textB s.data.toList).length = (numB s.size).length + s.size := by simp [textB]
      rw [List.length_append, htb] at hle2
      have h3 : (⟨(textB s.data.toList).toArray⟩ : ByteArray).size = (numB s.size).length + s.size := by rw [size_mk, htb]
      have h4 : (⟨(numB ss.length ++ textsB (lists (ss.take k))).toArray⟩ : ByteArray).size = (numB ss.length).length + (textsB (lists (ss.take k))).length := by rw [size_mk, List.length_append]
      generalize hpre : numB ss.length ++ textsB (lists (ss.take k)) = pre at *
      clear htb e
      go_wp2_with (go_at_call 47; refine (reftext_any _ _ (by omega)).mono ?_; rintro e w3 ⟨rfl, hb3⟩)
      have hb5 := hb.trans (hb3.mono hb.size)
      have hfin : Hid ((⟨pre.toArray⟩ ++ ⟨(textB s.data.toList).toArray⟩ : ByteArray) = ⟨(numB ss.length ++ textsB (lists (ss.take (k + 1)))).toArray⟩) := by
        show _ = _
        rw [bytes_append, HF.out, ← List.append_assoc, hpre]
      clear HF hpre
      go_roundw
      case rel => exact ⟨k + 1, by omega, by go_num, by rw [hfin.out], hb5⟩
      case measure => simp [intOf]; omega
    · have hk2 : k = ss.length := by omega
      subst hk2
      have e : ss.take ss.length = ss := List.take_length
      rw [e]
      go_wp2
      go_ret
      exact ⟨by simp [listB, lists_len], hb⟩

end Go.Proofs.YtoajckhfnadhjaaGreatDoor
