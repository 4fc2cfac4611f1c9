
/- lines.Same and lines.Find. -/
import Derived.Test.YtokkkjgdfnkjoaaDoorRefLine
import Derived.Shelf.Slices.Equal
import Derived.Shelf.Slices.Empties2
namespace Go.Proofs.YtokkkjgdfnkjoaaDoor
open Go.RowKit
set_option linter.unusedVariables false

theorem toBs_inj {la lc : List (List UInt8)} : toBs la = toBs lc ↔ la = lc := by
  constructor
  · intro h
    have := congrArg lists h
    rwa [lists_toBs, lists_toBs] at this
  · rintro rfl; rfl
theorem getD_toBs {ss : List ByteArray} {j : Nat} (h : j < ss.length) : ss.getD j ByteArray.empty = ss[j] := by
  simp [List.getD_eq_getElem?_getD, List.getElem?_eq_getElem h]
theorem equal_any (A A2 : Option Addr) (ss tt : List ByteArray) (cap cap2 : Nat) (w : World) (hs : Strs w w.heap.size A ss) (ht : Strs w w.heap.size A2 tt) (hn : ss.length ≤ 1000000) (hn2 : tt.length ≤ 1000000) :
    Calls Tryd.prog 35 #[.slice A ss.length cap, .slice A2 tt.length cap2] w fun e w' => e = .returned (.bool (decide (ss = tt))) ∧ ∃ q, w' = w.drewN q := by
  by_cases hl : ss.length = tt.length
  · by_cases h0 : ss.length = 0
    · have e1 : ss = [] := List.length_eq_zero_iff.1 h0
      have e2 : tt = [] := List.length_eq_zero_iff.1 (by omega)
      subst e1 e2
      refine (Tryd.slices_Equal_string_empty A A2 cap 0 cap2 w (by decide)).mono ?_
      rintro e w' ⟨rfl, rfl⟩
      exact ⟨rfl, 0, rfl⟩
    · obtain ⟨b, off, rfl, _, hc⟩ := hs (by omega)
      obtain ⟨b2, off2, rfl, _, hc2⟩ := ht (by omega)
      refine (Tryd.slices_Equal_string b off ss.length cap b2 off2 tt.length cap2 ss tt w (Nat.le_refl _) (Nat.le_refl _) (by omega) (by omega) (fun j hj => by rw [hc j hj, getD_toBs hj]) (fun j hj => by rw [hc2 j hj, getD_toBs hj])).mono ?_
      rintro e w' ⟨rfl, h⟩
      rw [List.take_length, List.take_length]
      exact ⟨rfl, h⟩
  · refine (Tryd.slices_Equal_string_lens A A2 ss.length cap tt.length cap2 w hl).mono ?_
    rintro e w' ⟨rfl, rfl⟩
    have : ¬ ss = tt := fun e => hl (by rw [e])
    exact ⟨by simp [this], 0, rfl⟩

set_option maxRecDepth 100000 in
theorem lsame_any (A A2 : Option Addr) (ss tt : List ByteArray) (cap cap2 : Nat) (w : World) (hs : Strs w w.heap.size A ss) (ht : Strs w w.heap.size A2 tt) (hn : ss.length ≤ 1000000) (hn2 : tt.length ≤ 1000000) :
    Calls Tryd.prog 20 #[.slice A ss.length cap, .slice A2 tt.length cap2] w fun e w' => e = .returned (.bool (decide (ss = tt))) ∧ ∃ q, w' = w.drewN q := by
  have HE := Lib.hid (equal_any A A2 ss tt cap cap2 w hs ht hn hn2)
  clear hs ht
  generalize hd : decide (ss = tt) = d at *
  clear hd
  go_enter Tryd.func20, Tryd.ntmps20
  go_wp2_with fail
  refine HE.out.mono ?_
  rintro e w' ⟨rfl, q, rfl⟩
  go_wp2
  go_ret
  exact ⟨rfl, q, rfl⟩

/-- Where lines stand among others, the least place from 'from' on; -1: nowhere. -/
def IsFind (la lc : List (List UInt8)) (fr v : Int) : Prop :=
  (v = -1 ∧ ∀ j : Nat, fr ≤ j → atB la lc j = false) ∨ ∃ k : Nat, v = k ∧ fr ≤ k ∧ atB la lc k = true ∧ ∀ j : Nat, j < k → fr ≤ j → atB la lc j = false
theorem IsFind.uniq {la lc : List (List UInt8)} {fr v u : Int} (h : IsFind la lc fr v) (g : IsFind la lc fr u) : v = u := by
  rcases h with ⟨rfl, h⟩ | ⟨k, rfl, hk, ha, h⟩ <;> rcases g with ⟨rfl, g⟩ | ⟨m, rfl, hm, hb, g⟩
  · rfl
  · rw [h m hm] at hb; cases hb
  · rw [g k hk] at ha; cases ha
  · rcases Nat.lt_trichotomy k m with h1 | h1 | h1
    · rw [g k h1 hk] at ha; cases ha
    · rw [h1]
    · rw [h m h1 hm] at hb; cases hb
theorem atB_far {la lc : List (List UInt8)} {k : Nat} (h : la.length < k + lc.length) : atB la lc k = false := by simp [atB]; omega
theorem atB_iff {la lc : List (List UInt8)} {k : Nat} (h : k + lc.length ≤ la.length) : atB la lc k = decide ((la.drop k).take lc.length = lc) := by
  have e : ((lc.length : Int) ≤ la.length - (k : Nat)) := by omega
  simp [atB, e]

/-- A part of a row of strings. -/
theorem Strs.part {w : World} {B : Nat} {A : Option Addr} {ls : List (List UInt8)} (h : Strs w B A (toBs ls)) (j n : Nat) (A2 : Option Addr) (hA : ∀ b off, A = some ⟨b, off, none⟩ → j < ls.length → A2 = some ⟨b, off + j, none⟩) : Strs w B A2 (toBs ((ls.drop j).take n)) := fun hp => by
  have hl : j < ls.length := by rw [toBs_len, List.length_take, List.length_drop] at hp; omega
  obtain ⟨b, off, e, hb, hc⟩ := h (by rw [toBs_len]; omega)
  refine ⟨b, off + j, hA b off e hl, hb, fun i hi => ?_⟩
  have hi2 : j + i < (toBs ls).length := by rw [toBs_len] at *; rw [List.length_take, List.length_drop] at hi; omega
  rw [Nat.add_assoc, hc (j + i) hi2]
  simp [toBs]

theorem drewN_add (w : World) (q q2 : Nat) : (w.drewN q).drewN q2 = w.drewN (q + q2) := by
  first | rfl | simp [World.drewN, Nat.add_assoc]
theorem add_row (b off a : Nat) : (⟨b, off, none⟩ : Addr).add a = ⟨b, off + a, none⟩ := by unfold Addr.add; split <;> simp_all
theorem same_part (A A2 A3 : Option Addr) (la lc : List (List UInt8)) (c3 cap2 a : Nat) (w : World) (hs : Strs w w.heap.size A (toBs la)) (ht : Strs w w.heap.size A2 (toBs lc)) (hn : la.length ≤ 1000000) (hn2 : lc.length ≤ 1000000) (ha : a + lc.length ≤ la.length)
    (hA : ∀ b off, A = some ⟨b, off, none⟩ → a < la.length → A3 = some ⟨b, off + a, none⟩) :
    Calls Tryd.prog 20 #[.slice A3 lc.length c3, .slice A2 lc.length cap2] w fun e w' => e = .returned (.bool (atB la lc a)) ∧ ∃ q, w' = w.drewN q := by
  have hl : ((la.drop a).take lc.length).length = lc.length := by rw [List.length_take, List.length_drop]; omega
  have h := lsame_any A3 A2 (toBs ((la.drop a).take lc.length)) (toBs lc) c3 cap2 w (hs.part a lc.length A3 hA) ht (by rw [toBs_len, hl]; omega) (by rw [toBs_len]; omega)
  rw [toBs_len, toBs_len, hl] at h
  refine h.mono ?_
  rintro e w' ⟨rfl, hq⟩
  refine ⟨?_, hq⟩
  rw [atB_iff ha]
  congr 3
  exact propext toBs_inj

set_option maxHeartbeats 1000000 in
set_option maxRecDepth 100000 in
theorem lfind_any (A A2 : Option Addr) (la lc : List (List UInt8)) (cap cap2 : Nat) (fr : Int) (w : World) (hs : Strs w w.heap.size A (toBs la)) (ht : Strs w w.heap.size A2 (toBs lc)) (hn : la.length ≤ 1000000) (hn2 : lc.length ≤ 1000000) (hR : Room A la.length cap)
    (h1 : -9223372036854775808 ≤ fr) (h2 : fr ≤ 9223372036854775807) :
    Calls Tryd.prog 18 #[.slice A la.length cap, .slice A2 lc.length cap2, .int .i64 fr] w fun e w' => ∃ v, e = .returned (.int .i64 v) ∧ IsFind la lc fr v ∧ ∃ q, w' = w.drewN q := by
  have HS := Lib.hid hs
  have HT := Lib.hid ht
  have HR := Lib.hid hR
  clear hs ht hR
  go_enter Tryd.func18, Tryd.ntmps18
  go_wp2
  obtain ⟨a0, ha0, ha1, ha2⟩ : ∃ a0 : Nat, max fr 0 = (a0 : Int) ∧ fr ≤ a0 ∧ a0 ≤ 9223372036854775807 := ⟨(max fr 0).toNat, by omega, by omega, by omega⟩
  have hlo : Hid (∀ j : Nat, j < a0 → fr ≤ j → atB la lc j = false) := fun j hj hf => by omega
  rw [ha0]
  clear ha0
  go_loopw [7] (fun i wr => ∃ a : Nat, i = .int .i64 (a : Int) ∧ a ≤ 9223372036854775807 ∧ fr ≤ a ∧ Hid (∀ j : Nat, j < a → fr ≤ j → atB la lc j = false) ∧ ∃ q, wr = w.drewN q) (fun i _ => la.length + 1 - (intOf i).toNat)
  case atStart => exact ⟨a0, rfl, ha2, ha1, hlo.out, 0, rfl⟩
  case round =>
    obtain ⟨a, rfl, ha, hfa, hno, q, rfl⟩ := hrel
    clear hlo ha1 ha2
    by_cases hle : a + lc.length ≤ la.length
    · have hcap := HR.out.2
      have c1 : ((a : Int) ≤ (la.length : Int) - (lc.length : Int)) := by omega
      have c2 : ((a : Int) + (lc.length : Int)) ≤ (cap : Int) := by omega
      have c3 : (a : Int) ≤ (a : Int) + (lc.length : Int) := by omega
      have hcall : ∀ (A3 : Option Addr) (n3 c3 : Nat), n3 = lc.length → (∀ b off, A = some ⟨b, off, none⟩ → a < la.length → A3 = some ⟨b, off + a, none⟩) → Calls Tryd.prog 20 #[.slice A3 n3 c3, .slice A2 lc.length cap2] (w.drewN q) fun e w' => e = .returned (.bool (atB la lc a)) ∧ ∃ q2, w' = (w.drewN q).drewN q2 :=
        fun A3 n3 c3 hn3 hA => by
          subst hn3
          exact same_part A A2 A3 la lc c3 cap2 a (w.drewN q) HS.out HT.out hn hn2 hle hA
      cases hv : atB la lc a with
      | true =>
        have hres : Hid (IsFind la lc fr a) := .inr ⟨a, rfl, hfa, hv, hno.out⟩
        rw [hv] at hcall
        have HC := Lib.hid hcall
        clear hcall hv hno
        by_cases hca : cap = a
        · have hal : la.length ≤ a := by omega
          subst hca
          go_wp2_with fail
          refine (HC.out A 0 0 (by omega) (fun b off _ h => absurd h (by omega))).mono ?_
          rintro e w1 ⟨rfl, q2, rfl⟩
          go_wp2
          go_ret
          exact ⟨_, rfl, hres.out, q + q2, rfl⟩
        · go_wp2_with fail
          refine (HC.out _ lc.length (cap - a) rfl (fun b off e _ => by rw [e]; exact congrArg some (add_row b off a))).mono ?_
          rintro e w1 ⟨rfl, q2, rfl⟩
          go_wp2
          go_ret
          exact ⟨_, rfl, hres.out, q + q2, rfl⟩
      | false =>
        have hno2 : Hid (∀ j : Nat, j < a + 1 → fr ≤ j → atB la lc j = false) := by
          intro j hj hf
          by_cases h : j = a
          · subst h; exact hv
          · exact hno.out j (by omega) hf
        rw [hv] at hcall
        have HC := Lib.hid hcall
        clear hcall hv hno
        by_cases hca : cap = a
        · have hal : la.length ≤ a := by omega
          subst hca
          go_wp2_with fail
          refine (HC.out A 0 0 (by omega) (fun b off _ h => absurd h (by omega))).mono ?_
          rintro e w1 ⟨rfl, q2, rfl⟩
          go_wp2
          go_roundw
          case rel => exact ⟨cap + 1, by go_num, by omega, by omega, hno2.out, q + q2, rfl⟩
          case measure => simp [intOf]; omega
        · go_wp2_with fail
          refine (HC.out _ lc.length (cap - a) rfl (fun b off e _ => by rw [e]; exact congrArg some (add_row b off a))).mono ?_
          rintro e w1 ⟨rfl, q2, rfl⟩
          go_wp2
          go_roundw
          case rel => exact ⟨a + 1, by go_num, by omega, by omega, hno2.out, q + q2, rfl⟩
          case measure => simp [intOf]; omega
    · have c1 : ¬ ((a : Int) ≤ (la.length : Int) - (lc.length : Int)) := by omega
      have hres : Hid (IsFind la lc fr (-1)) := .inl ⟨rfl, fun j hf => by
        by_cases h : j < a
        · exact hno.out j h hf
        · exact atB_far (by omega)⟩
      clear hno
      go_wp2
      go_ret
      exact ⟨_, rfl, hres.out, q, rfl⟩
end Go.Proofs.YtokkkjgdfnkjoaaDoor
