/- name.Right, and the reference's Right. The reference's Digits, Right, Text of ids. Texts of ids, plainly: each is one id's alone. Lines, plainly: which texts are lines; the text of lines; the lines of a text; where lines stand. Operations and their bytes, plainly: which may be; one alone has given bytes. Patches and their bytes, plainly: which may be; one alone has given bytes. Which operations clash, plainly: both ways the same. Words for memory: places (a directory's id, a name), pairs of texts, pairs of numbers, and rows of them. Rows held while blocks are made. -/
import Derived.Lib.SlicesCompact
import Derived.Test.YtideldgblafhlaaDoorShelf
import Derived.BigQuiet
import Derived.Deep.QuietTactic
import Derived.Shelf.Spec.BytesIndexFunc
import Derived.Test.YtideldgblafhlaaDoorCk01
namespace Go.Proofs.YtideldgblafhlaaDoor
open Go.RowKit
set_option linter.unusedVariables false

def nameL : ByteArray := ⟨#[97, 98, 99, 100, 101, 102, 103, 104, 105, 106, 107, 108, 109, 110, 111, 112, 113, 114, 115, 116, 117, 118, 119, 120, 121, 122, 48, 49, 50, 51, 52, 53, 54, 55, 56, 57, 46, 95, 45]⟩
/-- Is each byte of a text one of these letters? -/
def allIn (L s : ByteArray) : Bool := s.data.toList.all fun c => L.data.toList.contains c
theorem indexByte_neg (c : UInt8) : ∀ l, Lib.indexByte l c < 0 ↔ l.contains c = false
  | [] => by simp [Lib.indexByte]
  | b :: l => by
    have ih := indexByte_neg c l
    have hg := Lib.indexByte_ge l c
    unfold Lib.indexByte
    by_cases h : b = c
    · subst h; simp
    · have h1 : (b == c) = false := by simpa using h
      have h2 : (c == b) = false := by simpa using fun e => h e.symm
      rw [List.contains_cons, h1, h2]
      simp only [Bool.false_eq_true, if_false, Bool.false_or]
      rw [← ih]
      split
      · rename_i h3
        have : Lib.indexByte l c = -1 := by simpa using h3
        omega
      · rename_i h3
        have : Lib.indexByte l c ≠ -1 := by simpa using h3
        omega
theorem allIn_no {L s : ByteArray} {k : Nat} (hk : k < s.size) (h : L.data.toList.contains s[k] = false) : allIn L s = false := by
  have : ¬ (s.data.toList.all fun c => L.data.toList.contains c) = true := by
    rw [List.all_eq_true]
    intro ha
    have := ha s[k] (by rw [show s[k] = s.data.toList[k]'(by simpa using hk) from rfl]; exact List.getElem_mem _)
    rw [h] at this
    cases this
  simpa [allIn] using this
theorem allIn_yes {L s : ByteArray} (h : ∀ k (hk : k < s.size), L.data.toList.contains s[k] = true) : allIn L s = true := by
  unfold allIn
  rw [List.all_eq_true]
  intro c hc
  obtain ⟨k, hk, rfl⟩ := List.getElem_of_mem hc
  exact h k (by simpa using hk)

set_option maxRecDepth 100000 in
theorem madeOf1_any (B : Nat) (L s : ByteArray) (w : World) (hB : B < w.heap.size) (hc : w.cell? ⟨B, 0, none⟩ = some (.string L)) (hs : s.size ≤ 9223372036854775807) :
    Calls Tryd.prog 57 #[.string s, .pointer (some ⟨B, 0, none⟩)] w fun e w' => e = .returned (.bool (allIn L s)) ∧ Below w.heap.size w w' := by
  go_enter Tryd.func57, Tryd.ntmps57
  go_wp2
  go_loopw [7] (fun i wr => ∃ k : Nat, k ≤ s.size ∧ i = .int .i64 (k : Int) ∧ Hid (∀ j (hj : j < s.size), j < k → L.data.toList.contains s[j] = true) ∧ Below w.heap.size w wr) (fun i _ => s.size - (intOf i).toNat)
  case atStart => exact ⟨0, Nat.zero_le _, rfl, fun j _ h => absurd h (by omega), Below.refl _ _⟩
  case round =>
    obtain ⟨k, hk, rfl, hall, hb⟩ := hrel
    have hcr : wr.cell? ⟨B, 0, none⟩ = some (.string L) := (hb.cell (p := ⟨B, 0, none⟩) hB).trans hc
    by_cases hlt : k < s.size
    · have hx : ∀ W, Calls Tryd.prog 58 #[.string L, .int .u8 (s[k].toNat : Int)] W fun e w' => e = .returned (.int .i64 (Lib.indexByte L.data.toList s[k])) ∧ w' = W := fun W => by
        have h := Tryd.strings_IndexByte L (s[k].toNat : Int) W
        simpa using h
      by_cases hin : L.data.toList.contains s[k] = true
      · have hneg : ¬ Lib.indexByte L.data.toList s[k] < 0 := by
          rw [indexByte_neg, hin]; simp
        have hyes : Hid (∀ j (hj : j < s.size), j < k + 1 → L.data.toList.contains s[j] = true) := by
          intro j hj hjk
          by_cases hjk2 : j = k
          · subst hjk2; exact hin
          · exact hall.out j hj (by omega)
        clear hall hin
        generalize Lib.indexByte L.data.toList s[k] = x at *
        go_wp2
        go_quiet (first | (go_at_call 58; refine Calls.quiet_of_same (hx _)))
        go_wp2
        go_roundw
        case rel => exact ⟨k + 1, by omega, by go_num, hyes, below_drewN hb _⟩
        case measure => simp [intOf]; omega
      · have hin2 : L.data.toList.contains s[k] = false := by simpa using hin
        have hneg : Lib.indexByte L.data.toList s[k] < 0 := (indexByte_neg _ _).2 hin2
        have hno := Lib.hid (allIn_no hlt hin2)
        clear hall hin hin2
        generalize Lib.indexByte L.data.toList s[k] = x at *
        go_wp2
        go_quiet (first | (go_at_call 58; refine Calls.quiet_of_same (hx _)))
        go_wp2
        go_ret
        rw [hno.out]
        exact ⟨rfl, below_drewN hb _⟩
    · have hk2 : k = s.size := by omega
      subst hk2
      have hyes := Lib.hid (allIn_yes fun j hj => hall.out j hj hj)
      clear hall
      go_wp2
      go_ret
      rw [hyes.out]
      exact ⟨rfl, hb⟩

/-- Is a text a name? -/
def rightB (s : ByteArray) : Bool := decide (1 ≤ s.size) && decide (s.size ≤ 40) && decide (s ≠ ⟨#[46]⟩) && decide (s ≠ ⟨#[46, 46]⟩) && allIn nameL s
theorem rightB_full {s : ByteArray} (h1 : 1 ≤ s.size) (h2 : s.size ≤ 40) (h3 : s ≠ ⟨#[46]⟩) (h4 : s ≠ ⟨#[46, 46]⟩) : rightB s = allIn nameL s := by
  simp [rightB, h1, h2, h3, h4]
theorem ne_toList {s : ByteArray} {l : List UInt8} (h : s ≠ ⟨l.toArray⟩) : ¬ s.toList = l := by
  intro e
  rw [toList_eq] at e
  exact h (bytes_inj (by rw [e]))
theorem ne_beq {s : ByteArray} {l : List UInt8} (h : s ≠ ⟨l.toArray⟩) : (s.toList == l) = false := by
  rw [beq_eq_false_iff_ne]
  exact ne_toList h

/-- What madeOf leaves: a function that asks the letters. -/
theorem madeOf_any (L : ByteArray) (w : World) :
    Calls Tryd.prog 49 #[.string L] w fun e w' => e = .returned (.func (.func 57) #[] #[.pointer (some ⟨w.heap.size, 0, none⟩)]) ∧ w' = w.alloc (.cells #[.string L] 9) := by
  go_enter Tryd.func49, Tryd.ntmps49
  go_wp2
  go_ret
  exact ⟨rfl, rfl⟩

set_option maxRecDepth 100000 in
theorem right_any (s : ByteArray) (w : World) (hs : s.size ≤ 9223372036854775807) :
    Calls Tryd.prog 39 #[.string s] w fun e w' => e = .returned (.bool (rightB s)) ∧ Below w.heap.size w w' := by
  by_cases h1 : s.size < 1
  · have hr : rightB s = false := by simp [rightB]; omega
    rw [hr]
    go_enter Tryd.func39, Tryd.ntmps39
    go_wp2
    go_ret
    exact ⟨rfl, Below.refl _ _⟩
  · by_cases h2 : 40 < s.size
    · have hr : rightB s = false := by simp [rightB]; omega
      rw [hr]
      go_enter Tryd.func39, Tryd.ntmps39
      go_wp2
      go_ret
      exact ⟨rfl, Below.refl _ _⟩
    · by_cases h3 : s = ⟨#[46]⟩
      · subst h3
        have hr : rightB ⟨#[46]⟩ = false := by decide
        rw [hr]
        go_enter Tryd.func39, Tryd.ntmps39
        go_wp2
        go_ret
        exact ⟨rfl, Below.refl _ _⟩
      · by_cases h4 : s = ⟨#[46, 46]⟩
        · subst h4
          have hr : rightB ⟨#[46, 46]⟩ = false := by decide
          rw [hr]
          go_enter Tryd.func39, Tryd.ntmps39
          go_wp2
          go_ret
          exact ⟨rfl, Below.refl _ _⟩
        · rw [rightB_full (by omega) (by omega) h3 h4]
          have e3 := ne_toList (l := [46]) h3
          have e4 := ne_toList (l := [46, 46]) h4
          have b3 := ne_beq (l := [46]) h3
          have b4 := ne_beq (l := [46, 46]) h4
          have hc := madeOf1_any w.heap.size nameL s (w.alloc (.cells #[.string nameL] 9)) (by simp) (by rw [World.cell?_alloc_new]; rfl) hs
          have hm := madeOf_any nameL w
          unfold nameL at hm hc
          obtain ⟨r, hr⟩ : ∃ r, Hid (allIn nameL s = r) := ⟨_, rfl⟩
          rw [show allIn ⟨#[97, 98, 99, 100, 101, 102, 103, 104, 105, 106, 107, 108, 109, 110, 111, 112, 113, 114, 115, 116, 117, 118, 119, 120, 121, 122, 48, 49, 50, 51, 52, 53, 54, 55, 56, 57, 46, 95, 45]⟩ s = r from hr.out] at hc
          rw [hr.out]
          clear h3 h4
          go_enter Tryd.func39, Tryd.ntmps39
          go_wp2_with (first
            | (go_at_call 49; refine hm.mono ?_; rintro e w1 ⟨rfl, rfl⟩)
            | (go_at_call 57; refine hc.mono ?_; rintro e w2 ⟨rfl, hb2⟩))
          go_ret
          exact ⟨rfl, ((Below.refl _ w).alloc (Nat.le_refl _) _).trans (hb2.mono (by simp))⟩

set_option maxRecDepth 100000 in
/-- The reference's letter. -/
theorem letter_any (c : UInt8) (w : World) :
    Calls Tryd.prog 38 #[.int .u8 (c.toNat : Int)] w fun e w' => e = .returned (.bool (nameL.data.toList.contains c)) ∧ w = w' := by
  obtain ⟨L, hL⟩ : ∃ L, L = nameL := ⟨_, rfl⟩
  have hsz : L.size = 39 := by rw [hL]; rfl
  have hL2 : (⟨#[97, 98, 99, 100, 101, 102, 103, 104, 105, 106, 107, 108, 109, 110, 111, 112, 113, 114, 115, 116, 117, 118, 119, 120, 121, 122, 48, 49, 50, 51, 52, 53, 54, 55, 56, 57, 46, 95, 45]⟩ : ByteArray) = L := by rw [hL]; rfl
  rw [← hL]
  clear hL
  go_enter Tryd.func38, Tryd.ntmps38
  go_wp2
  go_loop [4] (fun i => ∃ k : Nat, k ≤ L.size ∧ i = .int .i64 (k : Int) ∧ Hid (∀ j (hj : j < L.size), j < k → L[j] ≠ c)) (fun i => L.size - (intOf i).toNat)
  case atStart => exact ⟨0, Nat.zero_le _, rfl, fun j _ h => absurd h (by omega)⟩
  case round =>
    obtain ⟨k, hk, rfl, hall⟩ := hrel
    by_cases hlt : k < L.size
    · by_cases he : L[k] = c
      · have hyes : Hid (decide (c ∈ L.data) = true) := by
          show _ = _
          rw [decide_eq_true_eq, ← Array.mem_toList_iff, ← he]
          exact List.getElem_mem (l := L.data.toList) (by simpa using hlt)
        have hq : ((L[k].toNat : Int) == (c.toNat : Int)) = true := by rw [he]; simp
        clear hall he
        go_wp2
        go_ret
        rw [hyes.out]
        exact ⟨rfl, rfl⟩
      · have hq : ((L[k].toNat : Int) == (c.toNat : Int)) = false := by
          rw [beq_eq_false_iff_ne]
          intro h
          exact he (UInt8.toNat_inj.1 (by omega))
        have hall2 : Hid (∀ j (hj : j < L.size), j < k + 1 → L[j] ≠ c) := by
          intro j hj hjk
          by_cases h : j = k
          · subst h; exact he
          · exact hall.out j hj (by omega)
        clear hall
        go_wp2
        go_round
        case rel => exact ⟨k + 1, by omega, by go_num, hall2⟩
        case measure => simp [intOf]; omega
    · have hk2 : k = L.size := by omega
      subst hk2
      have hno : Hid (decide (c ∈ L.data) = false) := by
        show _ = _
        rw [decide_eq_false_iff_not, ← Array.mem_toList_iff]
        intro h
        obtain ⟨j, hj, e⟩ := List.getElem_of_mem h
        exact hall.out j (by simpa using hj) (by simpa using hj) e
      clear hall
      go_wp2
      go_ret
      rw [hno.out]
      exact ⟨rfl, rfl⟩

set_option maxRecDepth 100000 in
theorem refright_any (s : ByteArray) (w : World) (hs : s.size ≤ 9223372036854775807) :
    Calls Tryd.prog 28 #[.string s] w fun e w' => e = .returned (.bool (rightB s)) ∧ w = w' := by
  go_enter Tryd.func28, Tryd.ntmps28
  go_wp2
  go_loop [3] (fun i => ∃ k : Nat, k ≤ s.size ∧ i = .int .i64 (k : Int) ∧ Hid (∀ j (hj : j < s.size), j < k → nameL.data.toList.contains s[j] = true)) (fun i => s.size - (intOf i).toNat)
  case atStart => exact ⟨0, Nat.zero_le _, rfl, fun j _ h => absurd h (by omega)⟩
  case round =>
    obtain ⟨k, hk, rfl, hall⟩ := hrel
    by_cases hlt : k < s.size
    · have hl := letter_any s[k]
      by_cases hin : nameL.data.toList.contains s[k] = true
      · rw [hin] at hl
        have hyes : Hid (∀ j (hj : j < s.size), j < k + 1 → nameL.data.toList.contains s[j] = true) := by
          intro j hj hjk
          by_cases hjk2 : j = k
          · subst hjk2; exact hin
          · exact hall.out j hj (by omega)
        clear hall hin
        go_wp2_with (go_at_call 38; refine (hl _).mono ?_; rintro e w1 ⟨rfl, rfl⟩)
        go_round
        case rel => exact ⟨k + 1, by omega, by go_num, hyes⟩
        case measure => simp [intOf]; omega
      · have hin2 : nameL.data.toList.contains s[k] = false := by simpa using hin
        rw [hin2] at hl
        have hno : Hid (rightB s = false) := by
          show _ = _
          unfold rightB
          rw [allIn_no hlt hin2]
          simp
        clear hall hin hin2
        go_wp2_with (go_at_call 38; refine (hl _).mono ?_; rintro e w1 ⟨rfl, rfl⟩)
        go_ret
        rw [hno.out]
        exact ⟨rfl, rfl⟩
    · have hk2 : k = s.size := by omega
      subst hk2
      have hyes := allIn_yes fun j hj => hall.out j hj hj
      clear hall
      by_cases h1 : s.size < 1
      · have hr : Hid (rightB s = false) := by show _ = _; simp [rightB]; omega
        clear hyes
        go_wp2
        go_ret
        rw [hr.out]
        exact ⟨rfl, rfl⟩
      · by_cases h2 : 40 < s.size
        · have hr : Hid (rightB s = false) := by show _ = _; simp [rightB]; omega
          clear hyes
          go_wp2
          go_ret
          rw [hr.out]
          exact ⟨rfl, rfl⟩
        · by_cases h3 : s = ⟨#[46]⟩
          · have hr : Hid (rightB s = false) := by rw [h3]; show _ = _; decide
            subst h3
            clear hyes
            go_wp2
            go_ret
            rw [hr.out]
            exact ⟨rfl, rfl⟩
          · by_cases h4 : s = ⟨#[46, 46]⟩
            · have hr : Hid (rightB s = false) := by rw [h4]; show _ = _; decide
              subst h4
              clear hyes
              go_wp2
              go_ret
              rw [hr.out]
              exact ⟨rfl, rfl⟩
            · have hr : Hid (rightB s = true) := by show _ = _; rw [rightB_full (by omega) (by omega) h3 h4]; exact hyes
              have e3 := ne_toList (l := [46]) h3
              have e4 := ne_toList (l := [46, 46]) h4
              have b3 := ne_beq (l := [46]) h3
              have b4 := ne_beq (l := [46, 46]) h4
              clear hyes h3 h4
              go_wp2
              go_ret
              rw [hr.out]
              exact ⟨rfl, rfl⟩
end Go.Proofs.YtideldgblafhlaaDoor
namespace Go.Proofs.YtideldgblafhlaaDoor
open Go.RowKit
set_option linter.unusedVariables false

theorem digits_lt {n : Nat} (h : n < 10) : digits n = [48 + UInt8.ofNat n] := by
  unfold digits
  rw [dif_pos h]
theorem digits_ge {n : Nat} (h : ¬ n < 10) : digits n = digits (n / 10) ++ [48 + UInt8.ofNat (n % 10)] := by
  rw [digits, dif_neg h]
theorem digits_len (n : Nat) : (digits n).length ≤ n + 1 := by
  induction n using Nat.strongRecOn with
  | _ n ih =>
    by_cases h : n < 10
    · rw [digits_lt h]
      simp
    · rw [digits_ge h, List.length_append]
      have := ih (n / 10) (by omega)
      simp only [List.length_cons, List.length_nil]
      omega
set_option maxHeartbeats 2000000 in
set_option maxRecDepth 100000 in
theorem refiright_any (x : Im) (w : World) (ox : x.p.size ≤ 9223372036854775807) :
    Calls Tryd.prog 19 #[x.val] w fun e w' => e = .returned (.bool (okI (fun l => rightB (toB l)) x.key)) ∧ Below w.heap.size w w' := by
  obtain ⟨hb, hx⟩ := id_box w x
  unfold Im.val
  have HB := Lib.hid hb
  have c0 := id_c0 hx
  have c1 := id_c1 hx
  have CR := Lib.hid (fun w => refright_any x.p w ox)
  have hk : Hid (okI (fun l => rightB (toB l)) x.key = if x.p = ⟨#[]⟩ then decide (0 ≤ x.n ∧ x.n ≤ 2) else rightB x.p && decide (0 ≤ x.n ∧ x.n ≤ 1048576)) := by
    show _ = _
    unfold okI Im.key
    simp only [toB_of]
    by_cases h : x.p = ⟨#[]⟩
    · rw [if_pos h, if_pos (by rw [h])]
    · rw [if_neg h, if_neg fun e => h (bytes_inj (by rw [e]))]
  rw [hk.out]
  clear hb hx hk
  obtain ⟨p, n⟩ := x
  simp only at *
  by_cases h : p = ⟨#[]⟩
  · subst h
    rw [if_pos rfl]
    by_cases h1 : 0 ≤ n
    · by_cases h2 : n ≤ 2
      · have hv : decide (0 ≤ n ∧ n ≤ 2) = true := decide_eq_true ⟨h1, h2⟩
        rw [hv]
        have h3 : n ≥ 0 := h1
        go_enter Tryd.func19, Tryd.ntmps19
        go_wp2
        go_ret
        exact ⟨rfl, HB.out⟩
      · have hv : decide (0 ≤ n ∧ n ≤ 2) = false := decide_eq_false fun h => h2 h.2
        rw [hv]
        have h3 : n ≥ 0 := h1
        go_enter Tryd.func19, Tryd.ntmps19
        go_wp2
        go_ret
        exact ⟨rfl, HB.out⟩
    · have hv : decide (0 ≤ n ∧ n ≤ 2) = false := decide_eq_false fun h => h1 h.1
      rw [hv]
      have h3 : ¬ n ≥ 0 := h1
      go_enter Tryd.func19, Tryd.ntmps19
      go_wp2
      go_ret
      exact ⟨rfl, HB.out⟩
  · rw [if_neg h]
    have h0 := str_ne_empty h
    by_cases h4 : rightB p = true
    · rw [h4] at CR
      by_cases h1 : 0 ≤ n
      · by_cases h2 : n ≤ 1048576
        · have hv : (rightB p && decide (0 ≤ n ∧ n ≤ 1048576)) = true := by rw [h4, decide_eq_true ⟨h1, h2⟩]; rfl
          rw [hv]
          have h3 : n ≥ 0 := h1
          clear h4 hv
          go_enter Tryd.func19, Tryd.ntmps19
          go_wp2_with (go_at_call 28; refine (CR.out _).mono ?_; rintro e w1 ⟨rfl, rfl⟩)
          go_ret
          exact ⟨rfl, HB.out⟩
        · have hv : (rightB p && decide (0 ≤ n ∧ n ≤ 1048576)) = false := by rw [decide_eq_false fun h => h2 h.2, Bool.and_false]
          rw [hv]
          have h3 : n ≥ 0 := h1
          clear h4 hv
          go_enter Tryd.func19, Tryd.ntmps19
          go_wp2_with (go_at_call 28; refine (CR.out _).mono ?_; rintro e w1 ⟨rfl, rfl⟩)
          go_ret
          exact ⟨by show Ending.returned (Value.bool (decide (n ≤ 1048576))) = _; rw [decide_eq_false (by omega)], HB.out⟩
      · have hv : (rightB p && decide (0 ≤ n ∧ n ≤ 1048576)) = false := by rw [decide_eq_false fun h => h1 h.1, Bool.and_false]
        rw [hv]
        have h3 : ¬ n ≥ 0 := h1
        clear h4 hv
        go_enter Tryd.func19, Tryd.ntmps19
        go_wp2_with (go_at_call 28; refine (CR.out _).mono ?_; rintro e w1 ⟨rfl, rfl⟩)
        go_ret
        exact ⟨rfl, HB.out⟩
    · have h5 : rightB p = false := by simpa using h4
      rw [h5] at CR
      rw [h5, Bool.false_and]
      clear h4 h5
      go_enter Tryd.func19, Tryd.ntmps19
      go_wp2_with (go_at_call 28; refine (CR.out _).mono ?_; rintro e w1 ⟨rfl, rfl⟩)
      go_ret
      exact ⟨rfl, HB.out⟩
end Go.Proofs.YtideldgblafhlaaDoor
namespace Go.Proofs.YtideldgblafhlaaDoor
open Go.RowKit
set_option linter.unusedVariables false

def okK (k : Ik) : Bool := okI (fun l => rightB (toB l)) k
def textK (k : Ik) : List UInt8 := textI (fun l => rightB (toB l)) k
theorem okK_n {k : Ik} (h : okK k = true) : 0 ≤ k.2 ∧ k.2 ≤ 1048576 := by
  unfold okK okI at h
  split at h
  · have := of_decide_eq_true h
    omega
  · exact of_decide_eq_true (Bool.and_eq_true_iff.1 h).2
theorem textK_ok {k : Ik} (h : okK k = true) : textK k = k.1 ++ 35 :: digits k.2.toNat := by
  unfold textK textI
  rw [if_pos (show okI (fun l => rightB (toB l)) k = true from h)]
theorem textK_no {k : Ik} (h : okK k = false) : textK k = [] := by
  unfold textK textI
  rw [if_neg (by rw [show okI (fun l => rightB (toB l)) k = false from h]; simp)]
end Go.Proofs.YtideldgblafhlaaDoor
namespace Go.Proofs.YtideldgblafhlaaDoor
set_option linter.unusedVariables false

/-- A rune that no line has (r, of n bytes). -/
def badRune (x : Nat × Nat) : Bool := (x.1 == 65533 && x.2 == 1) || (decide (x.1 < 32) && !(x.1 == 9))
def runesOk (s : ByteArray) : Nat → Nat → Bool
  | 0, _ => true
  | f + 1, i => if i < s.size then (if badRune (Utf8.decode s i) then false else runesOk s f (i + (Utf8.decode s i).2)) else true
/-- Are the runes from byte i on a line's? -/
def runes (s : ByteArray) (i : Nat) : Bool := runesOk s (s.size - i) i
theorem decode_pos (s : ByteArray) (i : Nat) : 1 ≤ (Utf8.decode s i).2 := by
  unfold Utf8.decode
  dsimp only
  repeat' split
  all_goals simp
theorem decode_le (s : ByteArray) (i : Nat) : (Utf8.decode s i).2 ≤ 4 := by
  unfold Utf8.decode
  dsimp only
  repeat' split
  all_goals simp
theorem decode_rune (s : ByteArray) (i : Nat) : (Utf8.decode s i).1 ≤ 2097151 := by
  unfold Utf8.decode
  dsimp only
  have h : ∀ k, (s.get! (i + k)).toNat < 256 := fun k => UInt8.toNat_lt _
  have h0 := h 0
  rw [Nat.add_zero] at h0
  have h1 := h 1
  have h2 := h 2
  have h3 := h 3
  repeat' split
  all_goals simp [Utf8.runeError]
  all_goals omega
theorem runesOk_fuel (s : ByteArray) : ∀ (f g i : Nat), s.size - i ≤ f → s.size - i ≤ g → runesOk s f i = runesOk s g i
  | 0, 0, _, _, _ => rfl
  | 0, g + 1, i, hf, _ => by simp [runesOk, show ¬ i < s.size by omega]
  | f + 1, 0, i, _, hg => by simp [runesOk, show ¬ i < s.size by omega]
  | f + 1, g + 1, i, hf, hg => by
    unfold runesOk
    by_cases h : i < s.size
    · have hp := decode_pos s i
      rw [if_pos h, if_pos h, runesOk_fuel s f g _ (by omega) (by omega)]
    · rw [if_neg h, if_neg h]
theorem runes_end {s : ByteArray} {i : Nat} (h : ¬ i < s.size) : runes s i = true := by
  unfold runes
  rw [show s.size - i = 0 by omega]; rfl
theorem runes_bad {s : ByteArray} {i : Nat} (h : i < s.size) (hb : badRune (Utf8.decode s i) = true) : runes s i = false := by
  unfold runes
  obtain ⟨f, hf⟩ : ∃ f, s.size - i = f + 1 := ⟨s.size - i - 1, by omega⟩
  rw [hf]
  unfold runesOk
  rw [if_pos h, if_pos hb]
theorem runes_good {s : ByteArray} {i : Nat} (h : i < s.size) (hb : badRune (Utf8.decode s i) = false) : runes s i = runes s (i + (Utf8.decode s i).2) := by
  have hp := decode_pos s i
  have e : runes s i = runesOk s ((s.size - i - 1) + 1) i := by unfold runes; congr 1; omega
  rw [e]
  unfold runesOk
  rw [if_pos h, if_neg (by rw [hb]; simp)]
  exact runesOk_fuel s _ _ _ (by omega) (by omega)
/-- Is a text a line? -/
def lineB (s : ByteArray) : Bool := decide (s.size ≤ 200) && runes s 0
/-- The error of lines that may not be a file's: 4, too many; 6, one is none; 0. -/
def checkN (ss : List ByteArray) : Int := if 2000 < ss.length then 4 else if ss.all lineB then 0 else 6
theorem checkN_big {ss : List ByteArray} (h : 2000 < ss.length) : checkN ss = 4 := by simp [checkN, h]
theorem checkN_bad {ss : List ByteArray} {k : Nat} (hn : ¬ 2000 < ss.length) (hk : k < ss.length) (h : lineB ss[k] = false) : checkN ss = 6 := by
  have : ss.all lineB = false := by
    rw [List.all_eq_false]
    exact ⟨ss[k], List.getElem_mem _, by rw [h]; simp⟩
  simp [checkN, hn, this]
theorem checkN_ok {ss : List ByteArray} (hn : ¬ 2000 < ss.length) (h : ∀ k (hk : k < ss.length), lineB ss[k] = true) : checkN ss = 0 := by
  have : ss.all lineB = true := by
    rw [List.all_eq_true]
    intro s hs
    obtain ⟨k, hk, rfl⟩ := List.getElem_of_mem hs
    exact h k hk
  simp [checkN, hn, this]
end Go.Proofs.YtideldgblafhlaaDoor
namespace Go.Proofs.YtideldgblafhlaaDoor
open Go.RowKit
set_option linter.unusedVariables false

/-- An operation: its kind, its ids, its names, which lines go, the number of the first one that comes, and these. -/
structure OpK where
  kind : Int
  self : Ik
  parent : Ik
  dst : Ik
  name : List UInt8
  dname : List UInt8
  left : Ik
  right : Ik
  dels : List Ik
  first : Int
  lines : List (List UInt8)
deriving DecidableEq
def zeroI : Ik := ([], 0)
def OpK.zero : OpK := ⟨0, zeroI, zeroI, zeroI, [], [], zeroI, zeroI, [], 0, []⟩
def noneI (k : Ik) : Bool := decide (k = zeroI)
def madeI (k : Ik) : Bool := okK k && decide (k.1 ≠ [])
def orI (k : Ik) (n : Int) : Bool := madeI k || decide (k = ([], n))
def nameK (l : List UInt8) : Bool := rightB (toB l)
/-- May a hunk's parts be? -/
def hunkO (o : OpK) : Bool := decide (o.left :: o.right :: o.dels).Nodup && o.dels.all madeI && orI o.left 1 && orI o.right 2 && decide (0 ≤ o.first ∧ o.first ≤ 1048576) && decide (o.dels.length ≤ 2000) && decide (0 < o.dels.length + o.lines.length) && decide (checkN (toBs o.lines) = 0)
/-- May a place be? -/
def placeO (o : OpK) : Bool := noneI o.left && noneI o.right && decide (o.dels = []) && decide (o.first = 0) && decide (o.lines = []) && orI o.parent 0 && nameK o.name
/-- May an operation be? -/
def mayO (o : OpK) : Bool := madeI o.self && decide (1 ≤ o.kind ∧ o.kind ≤ 5) &&
  (if o.kind = 5 then noneI o.parent && noneI o.dst && decide (o.name = []) && decide (o.dname = []) && hunkO o
   else placeO o && (if o.kind = 4 then orI o.dst 0 && nameK o.dname && decide (¬ (o.dst = o.parent ∧ o.dname = o.name)) else noneI o.dst && decide (o.dname = [])))
theorem ok_zero : okK zeroI = true := by decide
theorem ok_none {k : Ik} (h : noneI k = true) : okK k = true := by
  rw [show k = zeroI from of_decide_eq_true h]
  exact ok_zero
theorem ok_made {k : Ik} (h : madeI k = true) : okK k = true := (Bool.and_eq_true_iff.1 h).1
theorem ok_or {k : Ik} {n : Int} (h : orI k n = true) (hn : 0 ≤ n ∧ n ≤ 2) : okK k = true := by
  unfold orI at h
  rcases Bool.or_eq_true_iff.1 h with h | h
  · exact ok_made h
  · rw [show k = ([], n) from of_decide_eq_true h]
    unfold okK okI
    rw [if_pos rfl]
    exact decide_eq_true hn
theorem name_len {l : List UInt8} (h : nameK l = true) : l.length ≤ 40 := by
  unfold nameK rightB at h
  simp only [Bool.and_eq_true, decide_eq_true_eq] at h
  have h2 := h.1.1.1.2
  rwa [show (toB l).size = l.length from by simp [toB, ByteArray.size]] at h2
/-- What an operation that may be keeps to. -/
structure OpOk (o : OpK) : Prop where
  kind : 1 ≤ o.kind ∧ o.kind ≤ 5
  first : 0 ≤ o.first ∧ o.first ≤ 1048576
  self : okK o.self = true
  parent : okK o.parent = true
  dst : okK o.dst = true
  left : okK o.left = true
  right : okK o.right = true
  name : o.name.length ≤ 40
  dname : o.dname.length ≤ 40
  few : o.dels.length ≤ 2000
  dels : ∀ k ∈ o.dels, okK k = true
  lines : o.lines = [] ∨ checkN (toBs o.lines) = 0
theorem op_ok {o : OpK} (h : mayO o = true) : OpOk o := by
  unfold mayO at h
  rw [Bool.and_eq_true, Bool.and_eq_true, decide_eq_true_eq] at h
  obtain ⟨⟨h1, h2⟩, h3⟩ := h
  by_cases h5 : o.kind = 5
  · rw [if_pos h5] at h3
    unfold hunkO at h3
    simp only [Bool.and_eq_true, decide_eq_true_eq, List.all_eq_true] at h3
    obtain ⟨⟨⟨⟨a1, a2⟩, a3⟩, a4⟩, ⟨⟨⟨⟨⟨⟨⟨b1, b2⟩, b3⟩, b4⟩, b5⟩, b6⟩, b7⟩, b8⟩⟩ := h3
    exact ⟨h2, b5, ok_made h1, ok_none a1, ok_none a2, ok_or b3 (by decide), ok_or b4 (by decide), by rw [a3]; exact Nat.zero_le _, by rw [a4]; exact Nat.zero_le _, b6, fun k hk => ok_made (b2 k hk), .inr b8⟩
  · rw [if_neg h5] at h3
    unfold placeO at h3
    simp only [Bool.and_eq_true, decide_eq_true_eq] at h3
    obtain ⟨⟨⟨⟨⟨⟨⟨a1, a2⟩, a3⟩, a4⟩, a5⟩, a6⟩, a7⟩, h4⟩ := h3
    have ha : 0 ≤ o.first ∧ o.first ≤ 1048576 := by rw [a4]; decide
    by_cases h6 : o.kind = 4
    · rw [if_pos h6] at h4
      simp only [Bool.and_eq_true, decide_eq_true_eq] at h4
      exact ⟨h2, ha, ok_made h1, ok_or a6 (by decide), ok_or h4.1.1 (by decide), ok_none a1, ok_none a2, name_len a7, name_len h4.1.2, by rw [a3]; exact Nat.zero_le _, by rw [a3]; simp, .inl a5⟩
    · rw [if_neg h6] at h4
      simp only [Bool.and_eq_true, decide_eq_true_eq] at h4
      exact ⟨h2, ha, ok_made h1, ok_or a6 (by decide), ok_none h4.1, ok_none a1, ok_none a2, name_len a7, by rw [h4.2]; exact Nat.zero_le _, by rw [a3]; exact Nat.zero_le _, by rw [a3]; simp, .inl a5⟩
end Go.Proofs.YtideldgblafhlaaDoor
namespace Go.Proofs.YtideldgblafhlaaDoor
open Go.RowKit
set_option linter.unusedVariables false

/-- A patch: its name, the patches that it hangs on, its operations. -/
structure PatK where
  name : List UInt8
  deps : List (List UInt8)
  ops : List OpK
deriving DecidableEq
def PatK.zero : PatK := ⟨[], [], []⟩
end Go.Proofs.YtideldgblafhlaaDoor
namespace Go.Proofs.YtideldgblafhlaaDoor
open Go.RowKit
set_option linter.unusedVariables false

/-- A place: a directory's id, a name. -/
abbrev Pl := Ik × List UInt8
/-- The places that an operation touches. -/
def placesO (o : OpK) : List Pl := if o.kind < 1 ∨ 4 < o.kind then [] else if o.kind = 4 then [(o.parent, o.name), (o.dst, o.dname)] else [(o.parent, o.name)]
theorem places_two (o : OpK) : (placesO o).length ≤ 2 := by
  unfold placesO
  split
  · simp
  · split <;> simp
/-- Do one hunk's lines that go meet the other one's? -/
def touchO (a b : OpK) : Bool := decide (b.left ∈ a.dels) || decide (b.right ∈ a.dels) || meetI a.dels b.dels
def hunksC (a b : OpK) : Bool := decide (a.left = b.left) || decide (a.right = b.right) || touchO a b || touchO b a
/-- Have they a place in common? -/
def samePl (a b : OpK) : Bool := (placesO a).any fun x => decide (x ∈ placesO b)
/-- Is a place of a in b itself? -/
def inPl (a b : OpK) : Bool := (placesO a).any fun x => decide (x.1 = b.self)
/-- Why operations clash; 0: they do not. -/
def clashO (a b : OpK) : Int :=
  if a.self = b.self ∧ a.kind = 5 ∧ b.kind = 5 ∧ hunksC a b = true then 1
  else if a.self = b.self ∧ (a.kind = 5 ∧ b.kind = 3 ∨ a.kind = 3 ∧ b.kind = 5) then 2
  else if samePl a b = true then 3
  else if a.self = b.self ∧ (a.kind = 3 ∨ a.kind = 4) ∧ (b.kind = 3 ∨ b.kind = 4) then 4
  else if b.kind = 3 ∧ inPl a b = true then 5
  else if a.kind = 3 ∧ inPl b a = true then 5 else 0
theorem hunksC_comm (a b : OpK) : hunksC a b = hunksC b a := by
  unfold hunksC
  rw [decide_eq_decide.2 (eq_comm (a := a.left) (b := b.left)), decide_eq_decide.2 (eq_comm (a := a.right) (b := b.right)), Bool.or_assoc _ (touchO a b), Bool.or_comm (touchO a b), ← Bool.or_assoc]
theorem samePl_comm (a b : OpK) : samePl a b = samePl b a := by
  rw [Bool.eq_iff_iff]
  unfold samePl
  simp only [List.any_eq_true, decide_eq_true_eq]
  exact ⟨fun ⟨x, h1, h2⟩ => ⟨x, h2, h1⟩, fun ⟨x, h1, h2⟩ => ⟨x, h2, h1⟩⟩
theorem clashO_comm (a b : OpK) : clashO a b = clashO b a := by
  unfold clashO
  have e1 : (a.self = b.self ∧ a.kind = 5 ∧ b.kind = 5 ∧ hunksC a b = true) ↔ (b.self = a.self ∧ b.kind = 5 ∧ a.kind = 5 ∧ hunksC b a = true) := by
    rw [hunksC_comm a b]
    exact ⟨fun ⟨h1, h2, h3, h4⟩ => ⟨h1.symm, h3, h2, h4⟩, fun ⟨h1, h2, h3, h4⟩ => ⟨h1.symm, h3, h2, h4⟩⟩
  have e2 : (a.self = b.self ∧ (a.kind = 5 ∧ b.kind = 3 ∨ a.kind = 3 ∧ b.kind = 5)) ↔ (b.self = a.self ∧ (b.kind = 5 ∧ a.kind = 3 ∨ b.kind = 3 ∧ a.kind = 5)) :=
    ⟨fun ⟨h1, h2⟩ => ⟨h1.symm, h2.elim (fun h => .inr ⟨h.2, h.1⟩) (fun h => .inl ⟨h.2, h.1⟩)⟩, fun ⟨h1, h2⟩ => ⟨h1.symm, h2.elim (fun h => .inr ⟨h.2, h.1⟩) (fun h => .inl ⟨h.2, h.1⟩)⟩⟩
  have e4 : (a.self = b.self ∧ (a.kind = 3 ∨ a.kind = 4) ∧ (b.kind = 3 ∨ b.kind = 4)) ↔ (b.self = a.self ∧ (b.kind = 3 ∨ b.kind = 4) ∧ (a.kind = 3 ∨ a.kind = 4)) :=
    ⟨fun ⟨h1, h2, h3⟩ => ⟨h1.symm, h3, h2⟩, fun ⟨h1, h2, h3⟩ => ⟨h1.symm, h3, h2⟩⟩
  simp only [e1, e2, samePl_comm a b, e4]
  split
  · rfl
  split
  · rfl
  split
  · rfl
  split
  · rfl
  by_cases h1 : b.kind = 3 ∧ inPl a b = true <;> by_cases h2 : a.kind = 3 ∧ inPl b a = true <;> simp [h1, h2]
/-- Which of p clashes with which of q. -/
def rowC (a : OpK) (i k : Nat) : List OpK → List (Nat × Nat)
  | [] => []
  | b :: r => (if clashO a b = 0 then [] else [(i, k)]) ++ rowC a i (k + 1) r
def pairsG (q : List OpK) (i : Nat) : List OpK → List (Nat × Nat)
  | [] => []
  | a :: r => rowC a i 0 q ++ pairsG q (i + 1) r
def pairsC (p q : List OpK) : List (Nat × Nat) := pairsG q 0 p
/-- Why patches clash: the first why of them. -/
def firstC (a : OpK) : List OpK → Int
  | [] => 0
  | b :: r => if clashO a b = 0 then firstC a r else clashO a b
def patchesC : List OpK → List OpK → Int
  | [], _ => 0
  | a :: r, q => if firstC a q = 0 then patchesC r q else firstC a q
theorem rowC_len (a : OpK) (i : Nat) : ∀ (k : Nat) (q : List OpK), (rowC a i k q).length ≤ q.length
  | _, [] => by simp [rowC]
  | k, b :: q => by
    have := rowC_len a i (k + 1) q
    unfold rowC
    rw [List.length_append, List.length_cons]
    split <;> simp <;> omega
theorem pairsG_len (q : List OpK) : ∀ (i : Nat) (p : List OpK), (pairsG q i p).length ≤ p.length * q.length
  | _, [] => by simp [pairsG]
  | i, a :: p => by
    have h1 := pairsG_len q (i + 1) p
    have h2 := rowC_len a i 0 q
    unfold pairsG
    rw [List.length_append, List.length_cons, Nat.add_mul]
    omega
end Go.Proofs.YtideldgblafhlaaDoor
namespace Go.Proofs.YtideldgblafhlaaDoor
open Go.RowKit
set_option linter.unusedVariables false

/-- A place as it lies. -/
structure Plm where
  dir : Im
  name : ByteArray
deriving DecidableEq
def Plm.key (x : Plm) : Pl := (x.dir.key, x.name.data.toList)
theorem Plm.key_inj {x y : Plm} (h : x.key = y.key) : x = y := by
  obtain ⟨d, n⟩ := x
  obtain ⟨e, m⟩ := y
  simp only [Plm.key, Prod.mk.injEq] at h
  rw [Im.key_inj h.1, bytes_inj h.2]
def pls (l : List Plm) : List Pl := l.map Plm.key
theorem pls_len (l : List Plm) : (pls l).length = l.length := by simp [pls]
theorem mem_pls {x : Plm} {l : List Plm} : x.key ∈ pls l ↔ x ∈ l := by
  unfold pls
  rw [List.mem_map]
  exact ⟨fun ⟨y, hy, e⟩ => by rw [← Plm.key_inj e]; exact hy, fun h => ⟨x, h, rfl⟩⟩
/-- Places as records of three cells. -/
def plR : Rk Plm where
  ty := 38
  tys := 33
  k := 3
  bytes := 40
  zero := .agg #[.string ByteArray.empty, .int .i64 0, .string ByteArray.empty]
  enc := fun x => [.string x.dir.p, .int .i64 x.dir.n, .string x.name]
  len := fun _ => rfl
  one := fun x u hu => by
    simp only [List.mem_cons, List.not_mem_nil, or_false] at hu
    rcases hu with rfl | rfl | rfl <;> rfl
  pos := by decide
  small := by decide
  zsz := rfl
  info := by kernel_rfl
  und := Tryd.underlying33
/-- Pairs of texts, in an array each. -/
def s2R : Rk (ByteArray × ByteArray) where
  ty := 35
  tys := 31
  k := 2
  bytes := 32
  zero := .agg #[.string ByteArray.empty, .string ByteArray.empty]
  enc := fun x => [.string x.1, .string x.2]
  len := fun _ => rfl
  one := fun x u hu => by
    simp only [List.mem_cons, List.not_mem_nil, or_false] at hu
    rcases hu with rfl | rfl <;> rfl
  pos := by decide
  small := by decide
  zsz := rfl
  info := by kernel_rfl
  und := Tryd.underlying31
/-- Pairs of numbers, in an array each. -/
def i2R : Rk (Int × Int) where
  ty := 45
  tys := 43
  k := 2
  bytes := 16
  zero := .agg #[.int .i64 0, .int .i64 0]
  enc := fun x => [.int .i64 x.1, .int .i64 x.2]
  len := fun _ => rfl
  one := fun x u hu => by
    simp only [List.mem_cons, List.not_mem_nil, or_false] at hu
    rcases hu with rfl | rfl <;> rfl
  pos := by decide
  small := by decide
  zsz := rfl
  info := by kernel_rfl
  und := Tryd.underlying43
end Go.Proofs.YtideldgblafhlaaDoor
namespace Go.Proofs.YtideldgblafhlaaDoor
open Go.RowKit
set_option linter.unusedVariables false

theorem cell_on {w w' : World} {b off : Nat} {v : Value} (h : w.cell? ⟨b, off, none⟩ = some v) (hb : Below w.heap.size w w') : w'.cell? ⟨b, off, none⟩ = some v := (hb.cell (p := ⟨b, off, none⟩) (World.block_lt_of_cell? _ _ h)).trans h
theorem below_dr {w w' : World} (h : Below w.drew.heap.size w.drew w') : Below w.heap.size w w' := ⟨h.os, h.tape, h.output, h.size, h.block⟩
theorem cell_on2 {w w' : World} {b off : Nat} {v : Value} (h : w.cell? ⟨b, off, none⟩ = some v) (hb : Below w.drew.heap.size w.drew w') : w'.cell? ⟨b, off, none⟩ = some v := ((below_dr hb).cell (p := ⟨b, off, none⟩) (World.block_lt_of_cell? _ _ h)).trans h
/-- Rows held while new blocks are made. -/
def Held (w0 w : World) (l : List (Option Addr × List (List UInt8))) : Prop :=
  Below w0.heap.size w0 w ∧ ∀ p ∈ l, Strs w w.heap.size p.1 (toBs p.2)
theorem Held.get {w0 w : World} {l : List (Option Addr × List (List UInt8))} {A : Option Addr} {ls : List (List UInt8)} (h : Held w0 w l) (hp : (A, ls) ∈ l) : Strs w w.heap.size A (toBs ls) := h.2 _ hp
theorem Held.nil (w : World) : Held w w [] := ⟨Below.refl _ _, fun p hp => by cases hp⟩
end Go.Proofs.YtideldgblafhlaaDoor
