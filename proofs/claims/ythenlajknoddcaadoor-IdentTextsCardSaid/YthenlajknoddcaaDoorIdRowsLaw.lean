
/- Layer 11: light; the law IdentRows, over package ident's calls. -/
import Derived.Test.YthenlajknoddcaaDoorIdAwake
namespace Go.Proofs.YthenlajknoddcaaDoor
open Go.RowKit
set_option linter.unusedVariables false

def lightI (l : List Im) : Bool := l.all (fun x => decide (x.p.size ≤ 100)) && decide (l.length ≤ 40)
theorem lightI_facts {l : List Im} (h : lightI l = true) : (∀ x ∈ l, x.p.size ≤ 100) ∧ l.length ≤ 40 := by
  unfold lightI at h
  rw [Bool.and_eq_true, List.all_eq_true, decide_eq_true_eq] at h
  exact ⟨fun x hx => of_decide_eq_true (h.1 x hx), h.2⟩
theorem rowI_out {p : List UInt8} {first n : Int} (h : ¬ (0 ≤ first ∧ 1 ≤ n ∧ n ≤ 2000)) : rowI p first n = [] := by
  unfold rowI
  rw [if_neg h]
theorem rowI_in {p : List UInt8} {first : Int} {m : Nat} (h : 0 ≤ first) (h1 : 1 ≤ m) (h2 : m ≤ 2000) : rowI p first (m : Int) = (List.range m).map fun (i : Nat) => (p, first + (i : Int)) := by
  unfold rowI
  rw [if_pos ⟨h, by omega, by omega⟩, Int.toNat_natCast]
theorem row_len {l : List Im} {p : List UInt8} {first : Int} {m : Nat} (h : ikeys l = (List.range m).map fun (i : Nat) => (p, first + (i : Int))) : l.length = m := by
  rw [← ikeys_len, h]
  simp
theorem row_get {l : List Im} {p : ByteArray} {first : Int} {m : Nat} (h : ikeys l = (List.range m).map fun (i : Nat) => (p.data.toList, first + (i : Int))) (k : Nat) (hk : k < l.length) : l[k].p = p ∧ l[k].n = first + (k : Int) := by
  have h1 : (ikeys l)[k]? = some l[k].key := by rw [List.getElem?_eq_getElem (by rw [ikeys_len]; exact hk), ikeys_get]
  have hm := row_len h
  rw [h, List.getElem?_map, List.getElem?_range (by omega)] at h1
  simp only [Option.map_some, Option.some.injEq, Im.key, Prod.mk.injEq] at h1
  exact ⟨(bytes_inj h1.1).symm, h1.2.symm⟩
set_option maxHeartbeats 4000000 in
set_option maxRecDepth 100000 in
theorem identrows_any (p : ByteArray) (first n : Int) (w : World) (C : IdC w) (b0 : -9223372036854775808 ≤ first) (b1 : first ≤ 9223372036854775807) (b2 : -9223372036854775808 ≤ n) (b3 : n ≤ 9223372036854775807) :
    Calls Tryd.prog 4 #[.string p, .int .i64 first, .int .i64 n] w fun e w' => e = .returned (.bool true) ∧ Below w.heap.size w w' := by
  by_cases h1 : 1073741824 < first
  · -- @M1
    have g1 : first > 1073741824 := h1
    go_enter Tryd.func4, Tryd.ntmps4
    go_wp2_with fail
    refine (idawake_any C _ (Below.refl _ _)).mono ?_
    rintro e wz ⟨rfl, hb⟩
    have HB := Lib.hid hb
    clear hb
    go_wp2
    go_ret
    exact ⟨rfl, HB.out⟩
  have g1 : ¬ first > 1073741824 := h1
  by_cases h2 : 300 < n ∧ n ≤ 2000
  · -- @M2
    obtain ⟨q1, q2⟩ := h2
    have q3 : n > 300 := q1
    go_enter Tryd.func4, Tryd.ntmps4
    go_wp2_with fail
    refine (idawake_any C _ (Below.refl _ _)).mono ?_
    rintro e wz ⟨rfl, hb⟩
    have HB := Lib.hid hb
    clear hb
    go_wp2
    go_ret
    exact ⟨rfl, HB.out⟩
  -- @M3
  by_cases h3 : 300 < n
  · have h4 : 2000 < n := by omega
    have q1 : n > 300 := h3
    have q2 : ¬ n ≤ 2000 := by omega
    have q3 : n > 2000 := h4
    have q4 : ¬ n < 1 := by omega
    have hout : ¬ (0 ≤ first ∧ 1 ≤ n ∧ n ≤ 2000) := by omega
    clear h2
    by_cases h5 : first < 0
    · -- @N1
      skip
      -- @N2
      go_enter Tryd.func4, Tryd.ntmps4
      go_wp2_with fail
      refine (C.row p first _ _ (by omega)).mono ?_
      rintro e w1 ⟨A1, n1, c1, l, rfl, hk, ho, hb⟩
      have HB1 := Lib.hid hb
      rw [rowI_out hout] at hk
      obtain rfl : l = [] := ikeys_inj (b := []) hk
      obtain ⟨hn1, _⟩ := ho.parts
      obtain rfl : n1 = 0 := hn1
      clear hk ho hb hout
      -- @N4
      go_wp2_with fail
      refine (idawake_any C _ HB1.out).mono ?_
      rintro e wz ⟨rfl, hb⟩
      have HB := Lib.hid (HB1.out.trans (hb.mono HB1.out.size))
      clear hb HB1
      go_wp2
      go_ret
      exact ⟨rfl, HB.out⟩
    · -- @N3
      skip
      skip
      go_enter Tryd.func4, Tryd.ntmps4
      go_wp2_with fail
      refine (C.row p first _ _ (by omega)).mono ?_
      rintro e w1 ⟨A1, n1, c1, l, rfl, hk, ho, hb⟩
      have HB1 := Lib.hid hb
      rw [rowI_out hout] at hk
      obtain rfl : l = [] := ikeys_inj (b := []) hk
      obtain ⟨hn1, _⟩ := ho.parts
      obtain rfl : n1 = 0 := hn1
      clear hk ho hb hout
      -- @N4
      go_wp2_with fail
      refine (idawake_any C _ HB1.out).mono ?_
      rintro e wz ⟨rfl, hb⟩
      have HB := Lib.hid (HB1.out.trans (hb.mono HB1.out.size))
      clear hb HB1
      go_wp2
      go_ret
      exact ⟨rfl, HB.out⟩
  -- @M4
  have q1 : ¬ n > 300 := h3
  have q3 : ¬ n > 2000 := by omega
  clear h2
  by_cases h5 : first < 0
  · -- @N5
    have hout : ¬ (0 ≤ first ∧ 1 ≤ n ∧ n ≤ 2000) := by omega
    skip
    go_enter Tryd.func4, Tryd.ntmps4
    go_wp2_with fail
    refine (C.row p first _ _ (by omega)).mono ?_
    rintro e w1 ⟨A1, n1, c1, l, rfl, hk, ho, hb⟩
    have HB1 := Lib.hid hb
    rw [rowI_out hout] at hk
    obtain rfl : l = [] := ikeys_inj (b := []) hk
    obtain ⟨hn1, _⟩ := ho.parts
    obtain rfl : n1 = 0 := hn1
    clear hk ho hb hout
    -- @N4
    go_wp2_with fail
    refine (idawake_any C _ HB1.out).mono ?_
    rintro e wz ⟨rfl, hb⟩
    have HB := Lib.hid (HB1.out.trans (hb.mono HB1.out.size))
    clear hb HB1
    go_wp2
    go_ret
    exact ⟨rfl, HB.out⟩
  by_cases h6 : n < 1
  · -- @N6
    have hout : ¬ (0 ≤ first ∧ 1 ≤ n ∧ n ≤ 2000) := by omega
    skip
    go_enter Tryd.func4, Tryd.ntmps4
    go_wp2_with fail
    refine (C.row p first _ _ (by omega)).mono ?_
    rintro e w1 ⟨A1, n1, c1, l, rfl, hk, ho, hb⟩
    have HB1 := Lib.hid hb
    rw [rowI_out hout] at hk
    obtain rfl : l = [] := ikeys_inj (b := []) hk
    obtain ⟨hn1, _⟩ := ho.parts
    obtain rfl : n1 = 0 := hn1
    clear hk ho hb hout
    -- @N4
    go_wp2_with fail
    refine (idawake_any C _ HB1.out).mono ?_
    rintro e wz ⟨rfl, hb⟩
    have HB := Lib.hid (HB1.out.trans (hb.mono HB1.out.size))
    clear hb HB1
    go_wp2
    go_ret
    exact ⟨rfl, HB.out⟩
  -- @N7
  obtain ⟨m, rfl⟩ : ∃ m : Nat, n = (m : Int) := ⟨n.toNat, by omega⟩
  go_enter Tryd.func4, Tryd.ntmps4
  go_wp2_with fail
  refine (C.row p first _ _ (by omega)).mono ?_
  rintro e w1 ⟨A1, n1, c1, l, rfl, hk, ho, hb⟩
  have HB1 := Lib.hid hb
  rw [rowI_in (by omega) (by omega) (by omega)] at hk
  have hlen := row_len hk
  have HK := Lib.hid hk
  have HLM := Lib.hid hlen
  obtain ⟨hn1, hrow, _, _, _⟩ := ho.parts
  have HR := Lib.hid hrow
  have HN1 := Lib.hid (hn1.trans hlen)
  have HI0 : Hid (Below w1.heap.size w1 w1) := Below.refl _ _
  clear hk ho hb hlen hn1 hrow
  -- @P1
  go_wp2_with fail
  go_loopw [8] (fun i wr => ∃ k : Nat, k ≤ m ∧ i = .int .i64 (k : Int) ∧ Hid (Below w1.heap.size w1 wr)) (fun i _ => m - (intOf i).toNat)
  case atStart => exact ⟨0, Nat.zero_le _, rfl, HI0.out⟩
  case round =>
    clear HI0
    obtain ⟨k, hk, rfl, hbr⟩ := hrel
    by_cases hlt : k < m
    · have hkl : k < l.length := by have := HLM.out; omega
      obtain ⟨g, off, rfl, hg, c0, d1⟩ := ids_get (HR.out.on hbr.out) hkl
      obtain ⟨e1, e2⟩ := row_get HK.out k hkl
      rw [e1] at c0
      rw [e2] at d1
      have u0 : (0 : Int) ≤ (k : Int) := by omega
      have u1 : (k : Int) < (n1 : Int) := by have := HN1.out; omega
      have u2 : k < n1 := by have := HN1.out; omega
      have u3 : IntKind.i64.wrap (first + (k : Int)) = first + (k : Int) := IntWalk.i64_in _ (by omega)
      have u4 : IntKind.i64.wrap ((k : Int) + 1) = (k : Int) + 1 := IntWalk.i64_in _ (by omega)
      clear e1 e2
      go_wp2
      go_roundw
      case rel => exact ⟨k + 1, by omega, by go_num, hbr⟩
      case measure => simp [intOf]; omega
    · obtain rfl : k = m := by omega
      have u0 : ¬ (k : Int) < (n1 : Int) := by have := HN1.out; omega
      have u1 : ¬ k < n1 := by have := HN1.out; omega
      have u2 : ((n1 : Int) == (k : Int)) = true := by have := HN1.out; simp; omega
      have HB2 := Lib.hid (HB1.out.trans (hbr.out.mono HB1.out.size))
      clear hbr HR HK HLM
      go_wp2_with fail
      refine (idawake_any C _ HB2.out).mono ?_
      rintro e wz ⟨rfl, hb⟩
      have HB := Lib.hid (HB2.out.trans (hb.mono HB2.out.size))
      clear hb HB1 HB2
      go_wp2
      go_ret
      exact ⟨rfl, HB.out⟩
end Go.Proofs.YthenlajknoddcaaDoor
