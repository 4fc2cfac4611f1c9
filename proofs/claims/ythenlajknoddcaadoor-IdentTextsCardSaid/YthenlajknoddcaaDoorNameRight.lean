
/- name.Right, and the reference's Right. -/
import Derived.Test.YthenlajknoddcaaDoorStr
import Derived.Test.YthenlajknoddcaaDoorShelf
import Derived.BigQuiet
import Derived.Deep.QuietTactic
namespace Go.Proofs.YthenlajknoddcaaDoor
open Go.RowKit
set_option linter.unusedVariables false

def nameL : ByteArray := ⟨#[97, 98, 99, 100, 101, 102, 103, 104, 105, 106, 107, 108, 109, 110, 111, 112, 113, 114, 115, 116, 117, 118, 119, 120, 121, 122, 48, 49, 50, 51, 52, 53, 54, 55, 56, 57, 46, 95, 45]⟩
/-- Is each byte of a text one of these letters? -/
def allIn (L s : ByteArray) : Bool := s.data.toList.all fun c => L.data.toList.contains c
theorem indexByte_neg (c : UInt8) : ∀ l, Lib.indexByte l c < 0 ↔ l.contains c = false
  | [] => by simp [Lib.indexByte]
  | b :: l => by
    have ih := indexByte_neg c l
    have hg := Lib.indexByte_ge l c
    unfold Lib.indexByte
    by_cases h : b = c
    · subst h; simp
    · have h1 : (b == c) = false := by simpa using h
      have h2 : (c == b) = false := by simpa using fun e => h e.symm
      rw [List.contains_cons, h1, h2]
      simp only [Bool.false_eq_true, if_false, Bool.false_or]
      rw [← ih]
      split
      · rename_i h3
        have : Lib.indexByte l c = -1 := by simpa using h3
        omega
      · rename_i h3
        have : Lib.indexByte l c ≠ -1 := by simpa using h3
        omega
theorem allIn_no {L s : ByteArray} {k : Nat} (hk : k < s.size) (h : L.data.toList.contains s[k] = false) : allIn L s = false := by
  have : ¬ (s.data.toList.all fun c => L.data.toList.contains c) = true := by
    rw [List.all_eq_true]
    intro ha
    have := ha s[k] (by rw [show s[k] = s.data.toList[k]'(by simpa using hk) from rfl]; exact List.getElem_mem _)
    rw [h] at this
    cases this
  simpa [allIn] using this
theorem allIn_yes {L s : ByteArray} (h : ∀ k (hk : k < s.size), L.data.toList.contains s[k] = true) : allIn L s = true := by
  unfold allIn
  rw [List.all_eq_true]
  intro c hc
  obtain ⟨k, hk, rfl⟩ := List.getElem_of_mem hc
  exact h k (by simpa using hk)

set_option maxRecDepth 100000 in
theorem madeOf1_any (B : Nat) (L s : ByteArray) (w : World) (hB : B < w.heap.size) (hc : w.cell? ⟨B, 0, none⟩ = some (.string L)) (hs : s.size ≤ 9223372036854775807) :
    Calls Tryd.prog 41 #[.string s, .pointer (some ⟨B, 0, none⟩)] w fun e w' => e = .returned (.bool (allIn L s)) ∧ Below w.heap.size w w' := by
  go_enter Tryd.func41, Tryd.ntmps41
  go_wp2
  go_loopw [7] (fun i wr => ∃ k : Nat, k ≤ s.size ∧ i = .int .i64 (k : Int) ∧ Hid (∀ j (hj : j < s.size), j < k → L.data.toList.contains s[j] = true) ∧ Below w.heap.size w wr) (fun i _ => s.size - (intOf i).toNat)
  case atStart => exact ⟨0, Nat.zero_le _, rfl, fun j _ h => absurd h (by omega), Below.refl _ _⟩
  case round =>
    obtain ⟨k, hk, rfl, hall, hb⟩ := hrel
    have hcr : wr.cell? ⟨B, 0, none⟩ = some (.string L) := (hb.cell (p := ⟨B, 0, none⟩) hB).trans hc
    by_cases hlt : k < s.size
    · have hx : ∀ W, Calls Tryd.prog 42 #[.string L, .int .u8 (s[k].toNat : Int)] W fun e w' => e = .returned (.int .i64 (Lib.indexByte L.data.toList s[k])) ∧ w' = W := fun W => by
        have h := Tryd.strings_IndexByte L (s[k].toNat : Int) W
        simpa using h
      by_cases hin : L.data.toList.contains s[k] = true
      · have hneg : ¬ Lib.indexByte L.data.toList s[k] < 0 := by
          rw [indexByte_neg, hin]; simp
        have hyes : Hid (∀ j (hj : j < s.size), j < k + 1 → L.data.toList.contains s[j] = true) := by
          intro j hj hjk
          by_cases hjk2 : j = k
          · subst hjk2; exact hin
          · exact hall.out j hj (by omega)
        clear hall hin
        generalize Lib.indexByte L.data.toList s[k] = x at *
        go_wp2
        go_quiet (first | (go_at_call 42; refine Calls.quiet_of_same (hx _)))
        go_wp2
        go_roundw
        case rel => exact ⟨k + 1, by omega, by go_num, hyes, below_drewN hb _⟩
        case measure => simp [intOf]; omega
      · have hin2 : L.data.toList.contains s[k] = false := by simpa using hin
        have hneg : Lib.indexByte L.data.toList s[k] < 0 := (indexByte_neg _ _).2 hin2
        have hno := Lib.hid (allIn_no hlt hin2)
        clear hall hin hin2
        generalize Lib.indexByte L.data.toList s[k] = x at *
        go_wp2
        go_quiet (first | (go_at_call 42; refine Calls.quiet_of_same (hx _)))
        go_wp2
        go_ret
        rw [hno.out]
        exact ⟨rfl, below_drewN hb _⟩
    · have hk2 : k = s.size := by omega
      subst hk2
      have hyes := Lib.hid (allIn_yes fun j hj => hall.out j hj hj)
      clear hall
      go_wp2
      go_ret
      rw [hyes.out]
      exact ⟨rfl, hb⟩

/-- Is a text a name? -/
def rightB (s : ByteArray) : Bool := decide (1 ≤ s.size) && decide (s.size ≤ 40) && decide (s ≠ ⟨#[46]⟩) && decide (s ≠ ⟨#[46, 46]⟩) && allIn nameL s
theorem rightB_full {s : ByteArray} (h1 : 1 ≤ s.size) (h2 : s.size ≤ 40) (h3 : s ≠ ⟨#[46]⟩) (h4 : s ≠ ⟨#[46, 46]⟩) : rightB s = allIn nameL s := by
  simp [rightB, h1, h2, h3, h4]
theorem ne_toList {s : ByteArray} {l : List UInt8} (h : s ≠ ⟨l.toArray⟩) : ¬ s.toList = l := by
  intro e
  rw [toList_eq] at e
  exact h (bytes_inj (by rw [e]))
theorem ne_beq {s : ByteArray} {l : List UInt8} (h : s ≠ ⟨l.toArray⟩) : (s.toList == l) = false := by
  rw [beq_eq_false_iff_ne]
  exact ne_toList h

/-- What madeOf leaves: a function that asks the letters. -/
theorem madeOf_any (L : ByteArray) (w : World) :
    Calls Tryd.prog 28 #[.string L] w fun e w' => e = .returned (.func (.func 41) #[] #[.pointer (some ⟨w.heap.size, 0, none⟩)]) ∧ w' = w.alloc (.cells #[.string L] 9) := by
  go_enter Tryd.func28, Tryd.ntmps28
  go_wp2
  go_ret
  exact ⟨rfl, rfl⟩

set_option maxRecDepth 100000 in
theorem right_any (s : ByteArray) (w : World) (hs : s.size ≤ 9223372036854775807) :
    Calls Tryd.prog 19 #[.string s] w fun e w' => e = .returned (.bool (rightB s)) ∧ Below w.heap.size w w' := by
  by_cases h1 : s.size < 1
  · have hr : rightB s = false := by simp [rightB]; omega
    rw [hr]
    go_enter Tryd.func19, Tryd.ntmps19
    go_wp2
    go_ret
    exact ⟨rfl, Below.refl _ _⟩
  · by_cases h2 : 40 < s.size
    · have hr : rightB s = false := by simp [rightB]; omega
      rw [hr]
      go_enter Tryd.func19, Tryd.ntmps19
      go_wp2
      go_ret
      exact ⟨rfl, Below.refl _ _⟩
    · by_cases h3 : s = ⟨#[46]⟩
      · subst h3
        have hr : rightB ⟨#[46]⟩ = false := by decide
        rw [hr]
        go_enter Tryd.func19, Tryd.ntmps19
        go_wp2
        go_ret
        exact ⟨rfl, Below.refl _ _⟩
      · by_cases h4 : s = ⟨#[46, 46]⟩
        · subst h4
          have hr : rightB ⟨#[46, 46]⟩ = false := by decide
          rw [hr]
          go_enter Tryd.func19, Tryd.ntmps19
          go_wp2
          go_ret
          exact ⟨rfl, Below.refl _ _⟩
        · rw [rightB_full (by omega) (by omega) h3 h4]
          have e3 := ne_toList (l := [46]) h3
          have e4 := ne_toList (l := [46, 46]) h4
          have b3 := ne_beq (l := [46]) h3
          have b4 := ne_beq (l := [46, 46]) h4
          have hc := madeOf1_any w.heap.size nameL s (w.alloc (.cells #[.string nameL] 9)) (by simp) (by rw [World.cell?_alloc_new]; rfl) hs
          have hm := madeOf_any nameL w
          unfold nameL at hm hc
          obtain ⟨r, hr⟩ : ∃ r, Hid (allIn nameL s = r) := ⟨_, rfl⟩
          rw [show allIn ⟨#[97, 98, 99, 100, 101, 102, 103, 104, 105, 106, 107, 108, 109, 110, 111, 112, 113, 114, 115, 116, 117, 118, 119, 120, 121, 122, 48, 49, 50, 51, 52, 53, 54, 55, 56, 57, 46, 95, 45]⟩ s = r from hr.out] at hc
          rw [hr.out]
          clear h3 h4
          go_enter Tryd.func19, Tryd.ntmps19
          go_wp2_with (first
            | (go_at_call 28; refine hm.mono ?_; rintro e w1 ⟨rfl, rfl⟩)
            | (go_at_call 41; refine hc.mono ?_; rintro e w2 ⟨rfl, hb2⟩))
          go_ret
          exact ⟨rfl, ((Below.refl _ w).alloc (Nat.le_refl _) _).trans (hb2.mono (by simp))⟩

set_option maxRecDepth 100000 in
/-- The reference's letter. -/
theorem letter_any (c : UInt8) (w : World) :
    Calls Tryd.prog 29 #[.int .u8 (c.toNat : Int)] w fun e w' => e = .returned (.bool (nameL.data.toList.contains c)) ∧ w = w' := by
  obtain ⟨L, hL⟩ : ∃ L, L = nameL := ⟨_, rfl⟩
  have hsz : L.size = 39 := by rw [hL]; rfl
  have hL2 : (⟨#[97, 98, 99, 100, 101, 102, 103, 104, 105, 106, 107, 108, 109, 110, 111, 112, 113, 114, 115, 116, 117, 118, 119, 120, 121, 122, 48, 49, 50, 51, 52, 53, 54, 55, 56, 57, 46, 95, 45]⟩ : ByteArray) = L := by rw [hL]; rfl
  rw [← hL]
  clear hL
  go_enter Tryd.func29, Tryd.ntmps29
  go_wp2
  go_loop [4] (fun i => ∃ k : Nat, k ≤ L.size ∧ i = .int .i64 (k : Int) ∧ Hid (∀ j (hj : j < L.size), j < k → L[j] ≠ c)) (fun i => L.size - (intOf i).toNat)
  case atStart => exact ⟨0, Nat.zero_le _, rfl, fun j _ h => absurd h (by omega)⟩
  case round =>
    obtain ⟨k, hk, rfl, hall⟩ := hrel
    by_cases hlt : k < L.size
    · by_cases he : L[k] = c
      · have hyes : Hid (decide (c ∈ L.data) = true) := by
          show _ = _
          rw [decide_eq_true_eq, ← Array.mem_toList_iff, ← he]
          exact List.getElem_mem (l := L.data.toList) (by simpa using hlt)
        have hq : ((L[k].toNat : Int) == (c.toNat : Int)) = true := by rw [he]; simp
        clear hall he
        go_wp2
        go_ret
        rw [hyes.out]
        exact ⟨rfl, rfl⟩
      · have hq : ((L[k].toNat : Int) == (c.toNat : Int)) = false := by
          rw [beq_eq_false_iff_ne]
          intro h
          exact he (UInt8.toNat_inj.1 (by omega))
        have hall2 : Hid (∀ j (hj : j < L.size), j < k + 1 → L[j] ≠ c) := by
          intro j hj hjk
          by_cases h : j = k
          · subst h; exact he
          · exact hall.out j hj (by omega)
        clear hall
        go_wp2
        go_round
        case rel => exact ⟨k + 1, by omega, by go_num, hall2⟩
        case measure => simp [intOf]; omega
    · have hk2 : k = L.size := by omega
      subst hk2
      have hno : Hid (decide (c ∈ L.data) = false) := by
        show _ = _
        rw [decide_eq_false_iff_not, ← Array.mem_toList_iff]
        intro h
        obtain ⟨j, hj, e⟩ := List.getElem_of_mem h
        exact hall.out j (by simpa using hj) (by simpa using hj) e
      clear hall
      go_wp2
      go_ret
      rw [hno.out]
      exact ⟨rfl, rfl⟩

set_option maxRecDepth 100000 in
theorem refright_any (s : ByteArray) (w : World) (hs : s.size ≤ 9223372036854775807) :
    Calls Tryd.prog 20 #[.string s] w fun e w' => e = .returned (.bool (rightB s)) ∧ w = w' := by
  go_enter Tryd.func20, Tryd.ntmps20
  go_wp2
  go_loop [3] (fun i => ∃ k : Nat, k ≤ s.size ∧ i = .int .i64 (k : Int) ∧ Hid (∀ j (hj : j < s.size), j < k → nameL.data.toList.contains s[j] = true)) (fun i => s.size - (intOf i).toNat)
  case atStart => exact ⟨0, Nat.zero_le _, rfl, fun j _ h => absurd h (by omega)⟩
  case round =>
    obtain ⟨k, hk, rfl, hall⟩ := hrel
    by_cases hlt : k < s.size
    · have hl := letter_any s[k]
      by_cases hin : nameL.data.toList.contains s[k] = true
      · rw [hin] at hl
        have hyes : Hid (∀ j (hj : j < s.size), j < k + 1 → nameL.data.toList.contains s[j] = true) := by
          intro j hj hjk
          by_cases hjk2 : j = k
          · subst hjk2; exact hin
          · exact hall.out j hj (by omega)
        clear hall hin
        go_wp2_with (go_at_call 29; refine (hl _).mono ?_; rintro e w1 ⟨rfl, rfl⟩)
        go_round
        case rel => exact ⟨k + 1, by omega, by go_num, hyes⟩
        case measure => simp [intOf]; omega
      · have hin2 : nameL.data.toList.contains s[k] = false := by simpa using hin
        rw [hin2] at hl
        have hno : Hid (rightB s = false) := by
          show _ = _
          unfold rightB
          rw [allIn_no hlt hin2]
          simp
        clear hall hin hin2
        go_wp2_with (go_at_call 29; refine (hl _).mono ?_; rintro e w1 ⟨rfl, rfl⟩)
        go_ret
        rw [hno.out]
        exact ⟨rfl, rfl⟩
    · have hk2 : k = s.size := by omega
      subst hk2
      have hyes := allIn_yes fun j hj => hall.out j hj hj
      clear hall
      by_cases h1 : s.size < 1
      · have hr : Hid (rightB s = false) := by show _ = _; simp [rightB]; omega
        clear hyes
        go_wp2
        go_ret
        rw [hr.out]
        exact ⟨rfl, rfl⟩
      · by_cases h2 : 40 < s.size
        · have hr : Hid (rightB s = false) := by show _ = _; simp [rightB]; omega
          clear hyes
          go_wp2
          go_ret
          rw [hr.out]
          exact ⟨rfl, rfl⟩
        · by_cases h3 : s = ⟨#[46]⟩
          · have hr : Hid (rightB s = false) := by rw [h3]; show _ = _; decide
            subst h3
            clear hyes
            go_wp2
            go_ret
            rw [hr.out]
            exact ⟨rfl, rfl⟩
          · by_cases h4 : s = ⟨#[46, 46]⟩
            · have hr : Hid (rightB s = false) := by rw [h4]; show _ = _; decide
              subst h4
              clear hyes
              go_wp2
              go_ret
              rw [hr.out]
              exact ⟨rfl, rfl⟩
            · have hr : Hid (rightB s = true) := by show _ = _; rw [rightB_full (by omega) (by omega) h3 h4]; exact hyes
              have e3 := ne_toList (l := [46]) h3
              have e4 := ne_toList (l := [46, 46]) h4
              have b3 := ne_beq (l := [46]) h3
              have b4 := ne_beq (l := [46, 46]) h4
              clear hyes h3 h4
              go_wp2
              go_ret
              rw [hr.out]
              exact ⟨rfl, rfl⟩
end Go.Proofs.YthenlajknoddcaaDoor
