/- SeqNeeds. -/
import Derived.Laws.Cover1
import Derived.Sort.OwnSorted
import Derived.Deep.RegionHeld3
import Derived.Deep.DrawnRows
import Derived.Deep.RegionLaw
import Derived.BigQuiet
import Derived.Deep.QuietTactic
import Derived.Handy
import Derived.Test.YtalabahjfmcnbaaGreatDoorShelf
import Derived.WalkKit
import Derived.Deep.Cut
import Derived.Test.YtalabahjfmcnbaaGreatDoorCk21
import Derived.Test.YtalabahjfmcnbaaGreatDoorCk31
import Derived.Test.YtalabahjfmcnbaaGreatDoorCk34
namespace Go.Proofs.YtalabahjfmcnbaaGreatDoor
open Go.RowKit
set_option linter.unusedVariables false

theorem needs_le : ∀ (rs g : List Pk) (out : List Nat), (needsP rs g out).length ≤ rs.length + out.length
  | [], g, out => by simp [needsP]
  | p :: rs, g, out => by
    obtain ⟨n, x, q, e⟩ : ∃ n x q, pastP p g = (n, x, q) := ⟨_, _, _, rfl⟩
    by_cases h : n = 0
    · subst h
      rw [needs_yes e]
      have := needs_le rs x out
      simp only [List.length_cons]
      omega
    · rw [needs_no e h]
      have := needs_le rs (p :: g) (rs.length :: out)
      simp only [List.length_cons] at this ⊢
      omega
theorem needsI_le (l : List Pk) (i : Int) : (needsI l i).length ≤ l.length := by
  unfold needsI
  split
  · have h := needs_le (l.take i.toNat).reverse [l[i.toNat]] []
    rw [List.length_reverse, List.length_take, List.length_nil] at h
    omega
  · exact Nat.zero_le _
theorem refset_l (A : Option Addr) (ls : List (List UInt8)) (n c : Nat) (w : World) (hn : n = ls.length) (hs : Strs w w.heap.size A (toBs ls)) (hl : ls.length ≤ 100000) : Calls Tryz.prog 25 #[.slice A n c] w (RowLeft w (setS ls)) := by
  have e : (toBs ls).length = ls.length := by simp [toBs]
  subst hn
  rw [← e]
  have h := refset_any A (toBs ls) c w hs (by rw [e]; exact hl)
  rw [lists_toBs] at h
  exact h.mono fun e w' h => own_row h
theorem refsame_l (A A2 : Option Addr) (ls : List (List UInt8)) (c c2 : Nat) (w : World) (hs : Strs w w.heap.size A (toBs ls)) (ht : Strs w w.heap.size A2 (toBs ls)) (hl : ls.length ≤ 100000) :
    Calls Tryz.prog 23 #[.slice A ls.length c, .slice A2 ls.length c2] w fun e w' => e = .returned (.bool true) ∧ Below w.heap.size w w' := by
  have e : (toBs ls).length = ls.length := by simp [toBs]
  rw [← e]
  have h := same_any A A2 (toBs ls) (toBs ls) c c2 w hs ht (by rw [e]; omega) (by rw [e]; omega)
  rw [show decide (toBs ls = toBs ls) = true from decide_eq_true rfl] at h
  exact h
theorem ins_len10 (x : List UInt8) : ∀ l, (ins x l).length ≤ l.length + 1
  | [] => by simp [ins]
  | y :: r => by
    have := ins_len10 x r
    unfold ins
    split
    · simp; omega
    · split <;> simp
theorem setS_le (l : List (List UInt8)) : (setS l).length ≤ l.length := by
  suffices h : ∀ (l a : List (List UInt8)), (l.foldl (fun a x => ins x a) a).length ≤ l.length + a.length by simpa [setS] using h l []
  intro l
  induction l with
  | nil => simp
  | cons x r ih =>
    intro a
    have h1 := ih (ins x a)
    have h2 := ins_len10 x a
    simp only [List.foldl_cons, List.length_cons]
    omega
theorem flat_le (l : List Pk) : (l.flatMap touchesR).length ≤ 2 * l.length := by
  induction l with
  | nil => simp
  | cons p l ih =>
    have := touchesR_len p
    simp only [List.flatMap_cons, List.length_append, List.length_cons]
    omega
theorem put_two (l : List Pm) (k : Nat) (b a : Pm) (h : k + 1 < l.length) : pkeys ((l.set k b).set (k + 1) a) = (pkeys l).take k ++ b.key :: a.key :: (pkeys l).drop (k + 2) := by
  have e1 : (l.set k b).set (k + 1) a = l.take k ++ b :: a :: l.drop (k + 2) := by
    apply List.ext_getElem
    · simp only [List.length_set, List.length_append, List.length_take, List.length_cons, List.length_drop]
      omega
    · intro j h1 h2
      simp only [List.length_set] at h1
      rw [List.getElem_set, List.getElem_set]
      by_cases q1 : k + 1 = j
      · subst q1
        rw [if_pos rfl, List.getElem_append_right (by rw [List.length_take]; omega)]
        simp [List.length_take, show min k l.length = k by omega]
      · rw [if_neg q1]
        by_cases q2 : k = j
        · subst q2
          rw [if_pos rfl, List.getElem_append_right (by rw [List.length_take]; omega)]
          simp [List.length_take, show min k l.length = k by omega]
        · rw [if_neg q2]
          by_cases q3 : j < k
          · rw [List.getElem_append_left (by rw [List.length_take]; omega), List.getElem_take]
          · rw [List.getElem_append_right (by rw [List.length_take]; omega)]
            obtain ⟨m, rfl⟩ : ∃ m, j = k + 2 + m := ⟨j - (k + 2), by omega⟩
            simp only [List.length_take, show min k l.length = k by omega, show k + 2 + m - k = m + 1 + 1 by omega, List.getElem_cons_succ, List.getElem_drop]
  rw [e1]
  simp [pkeys]
set_option maxHeartbeats 40000000 in
set_option maxRecDepth 100000 in
theorem seqneedslaw_any (A0 : Option Addr) (l : List Pm) (c0 : Nat) (i : Int) (w : World) (h0 : Ps w w.heap.size A0 l) (m0 : l.length ≤ 9223372036854775807) (r0 : Room A0 l.length c0) (b0 : -9223372036854775808 ≤ i) (b1 : i ≤ 9223372036854775807) (hT : Tabs w) :
    Calls Tryz.prog 5 #[.slice A0 l.length c0, .int .i64 i] w fun e w' => e = .returned (.bool true) ∧ Below w.heap.size w w' := by
  have C0 := light7_any A0 l c0 w h0 m0
  have HT := Lib.hid hT
  have HA : Hid (Below w.heap.size w w) := Below.refl _ _
  have H0 := Lib.hid (roww_in h0 r0)
  clear h0 r0 hT
  cases k0 : light7B l
  · rw [k0] at C0
    have C0 := Lib.hid C0
    go_enter Tryz.func5, Tryz.ntmps5
    go_wp2_with fail
    refine C0.out.mono ?_
    rintro e wl ⟨rfl, rfl⟩
    clear C0
    go_wp2_with fail
    refine (sawake_any _ HT.out).mono ?_
    rintro e wz ⟨rfl, hb⟩
    have HB := Lib.hid (HA.out.trans (hb.mono HA.out.size))
    clear hb
    go_wp2
    go_ret
    exact ⟨rfl, HB.out⟩
  rw [k0] at C0
  have C0 := Lib.hid C0
  have L0 := Lib.hid (light7_lt k0)
  clear k0
  by_cases n0 : 15 < l.length
  · have g0 : (15 : Int) < (l.length : Int) := by omega
    have g1 : (l.length : Int) > 15 := by omega
    go_enter Tryz.func5, Tryz.ntmps5
    go_wp2_with fail
    refine C0.out.mono ?_
    rintro e wl ⟨rfl, rfl⟩
    clear C0
    go_wp2_with fail
    refine (sawake_any _ HT.out).mono ?_
    rintro e wz ⟨rfl, hb⟩
    have HB := Lib.hid (HA.out.trans (hb.mono HA.out.size))
    clear hb
    go_wp2
    go_ret
    exact ⟨rfl, HB.out⟩
  have g0 : ¬ (15 : Int) < (l.length : Int) := by omega
  have g1 : ¬ (l.length : Int) > 15 := by omega
  have hn0 : l.length ≤ 15 := by omega
  clear m0 n0
  go_enter Tryz.func5, Tryz.ntmps5
  go_wp2_with fail
  refine C0.out.mono ?_
  rintro e wl ⟨rfl, rfl⟩
  clear C0
  obtain ⟨ns, hns⟩ : ∃ ns, needsI (pkeys l) i = ns := ⟨_, rfl⟩
  have hnl : ns.length ≤ 15 := by
    have h9 := needsI_le (pkeys l) i
    rw [hns, pkeys_len] at h9
    omega
  have HNS := Lib.hid hns
  go_wp2_with fail
  clear g0 g1
  refine (seqneeds_any A0 l _ c0 i _ H0.out L0.out (by omega) HT.out).mono ?_
  rintro e w1 ⟨A1, n1, c1, rfl, hr, hb⟩
  have hr1 := hr.out
  rw [hns] at hr1
  obtain rfl : n1 = ns.length := hr1.len
  replace H0 := Lib.hid (H0.out.on hb)
  replace HA := Lib.hid (HA.out.trans (hb.mono HA.out.size))
  replace HT := Lib.hid (Tabs.on HT.out hb)
  have H1 := Lib.hid hr1
  clear hr hr1 hb
  go_wp2_with fail
  refine (refneeds_w A0 l _ c0 i _ H0.out L0.out (by omega) HT.out).mono ?_
  rintro e w2 ⟨A2, n2, c2, rfl, hr, hb⟩
  have hr1 := hr.out
  rw [hns] at hr1
  obtain rfl : n2 = ns.length := hr1.len
  replace H0 := Lib.hid (H0.out.on hb)
  replace H1 := Lib.hid (H1.out.on hb)
  replace HA := Lib.hid (HA.out.trans (hb.mono HA.out.size))
  replace HT := Lib.hid (Tabs.on HT.out hb)
  have H2 := Lib.hid hr1
  clear hr hr1 hb hns
  have HI0 : Hid (Below w2.heap.size w2 w2) := Below.refl _ _
  go_wp2
  go_loopw [7] (fun kv wr => ∃ k : Nat, kv = .int .i64 (k : Int) ∧ k ≤ ns.length ∧ Hid (Below w2.heap.size w2 wr)) (fun kv _ => ns.length - (intOf kv).toNat)
  case atStart => exact ⟨0, rfl, Nat.zero_le _, HI0.out⟩
  case round =>
    clear HI0
    obtain ⟨k, rfl, hk, HI⟩ := hrel
    by_cases hlt : k < ns.length
    · obtain ⟨g1, o1, rfl, _, hc1⟩ := (H1.out.on HI.out).at_ (by omega)
      obtain ⟨g2, o2, rfl, _, hc2⟩ := (H2.out.on HI.out).at_ (by omega)
      have hd1 := hc1 k hlt
      have hd2 := hc2 k hlt
      unfold intV at hd1 hd2
      generalize ns[k] = x at *
      have HKS : Hid (wr.drew.cell? ⟨g1, o1 + k, none⟩ = some (.int .i64 (x : Int)) ∧ wr.drew.cell? ⟨g2, o2 + k, none⟩ = some (.int .i64 (x : Int))) := ⟨hd1, hd2⟩
      have HDR := Lib.hid (HI.out.trans (((Below.refl _ wr).drew).mono HI.out.size))
      have u1 : (0 : Int) ≤ (k : Int) := by omega
      have u2 : (k : Int) < (ns.length : Int) := by omega
      have u3 : IntKind.i64.wrap ((k : Int) + 1) = (k : Int) + 1 := IntWalk.i64_in _ (by omega)
      clear hc1 hc2 hd1 hd2 HI
      go_upto_region 8 with (fail)
      refine wp_region_noPanic ?_
      refine wp_region_held_drew (S := (fun w' => w'.cell? ⟨g1, o1 + k, none⟩ = some (.int .i64 (x : Int)) ∧ w'.cell? ⟨g2, o2 + k, none⟩ = some (.int .i64 (x : Int)))) (by kernel_rfl) HKS.out (fun hHeld => ?_)
      refine wpAnyH_take (i := 0) (oi := { dst := some 40, op := _, type := _, pos := _, after := _, guard := _ }) (v := .slice (some ⟨g1, o1, none⟩) ns.length c1) rfl (by kernel_rfl) (by kernel_rfl) (by kernel_rfl) (fun _ _ _ h => h) (Or.inl ⟨by rfl, fun w' hSw => ?_⟩) (by assumption) ?_
      · ((try dsimp only at hSw); go_simp)
      try simp only [Act.put, List.setIfInBounds_toArray, List.set_cons_zero, List.set_cons_succ]
      refine wpAnyH_take (i := 1) (oi := { dst := some 41, op := _, type := _, pos := _, after := _, guard := _ }) (v := .int .i64 (ns.length : Int)) rfl (by kernel_rfl) (by kernel_rfl) (by kernel_rfl) (fun _ _ _ h => h) (Or.inl ⟨by rfl, fun w' hSw => ?_⟩) (by assumption) ?_
      · ((try dsimp only at hSw); go_simp)
      try simp only [Act.put, List.setIfInBounds_toArray, List.set_cons_zero, List.set_cons_succ]
      refine wpAnyH_take (i := 2) (oi := { dst := some 42, op := _, type := _, pos := _, after := _, guard := _ }) (v := .slice (some ⟨g2, o2, none⟩) ns.length c2) rfl (by kernel_rfl) (by kernel_rfl) (by kernel_rfl) (fun _ _ _ h => h) (Or.inl ⟨by rfl, fun w' hSw => ?_⟩) (by assumption) ?_
      · ((try dsimp only at hSw); go_simp)
      try simp only [Act.put, List.setIfInBounds_toArray, List.set_cons_zero, List.set_cons_succ]
      refine wpAnyH_take (i := 3) (oi := { dst := some 43, op := _, type := _, pos := _, after := _, guard := _ }) (v := .int .i64 (ns.length : Int)) rfl (by kernel_rfl) (by kernel_rfl) (by kernel_rfl) (fun _ _ _ h => h) (Or.inl ⟨by rfl, fun w' hSw => ?_⟩) (by assumption) ?_
      · ((try dsimp only at hSw); go_simp)
      try simp only [Act.put, List.setIfInBounds_toArray, List.set_cons_zero, List.set_cons_succ]
      refine wpAnyH_take (i := 4) (oi := { dst := some 44, op := _, type := _, pos := _, after := _, guard := _ }) (v := .bool false) rfl (by kernel_rfl) (by kernel_rfl) (by kernel_rfl) (fun _ _ _ h => h) (Or.inl ⟨by rfl, fun w' hSw => ?_⟩) (by assumption) ?_
      · ((try dsimp only at hSw); go_simp)
      try simp only [Act.put, List.setIfInBounds_toArray, List.set_cons_zero, List.set_cons_succ]
      refine wpAnyH_take (i := 5) (oi := { dst := some 45, op := _, type := _, pos := _, after := _, guard := _ }) (v := .bool false) rfl (by kernel_rfl) (by kernel_rfl) (by kernel_rfl) (fun _ _ _ h => h) (Or.inl ⟨by rfl, fun w' hSw => ?_⟩) (by assumption) ?_
      · ((try dsimp only at hSw); go_simp)
      try simp only [Act.put, List.setIfInBounds_toArray, List.set_cons_zero, List.set_cons_succ]
      refine wpAnyH_take (i := 6) (oi := { dst := some 46, op := _, type := _, pos := _, after := _, guard := _ }) (v := .slice (some ⟨g1, o1, none⟩) ns.length c1) rfl (by kernel_rfl) (by kernel_rfl) (by kernel_rfl) (fun _ _ _ h => h) (Or.inl ⟨by rfl, fun w' hSw => ?_⟩) (by assumption) ?_
      · ((try dsimp only at hSw); go_simp)
      try simp only [Act.put, List.setIfInBounds_toArray, List.set_cons_zero, List.set_cons_succ]
      refine wpAnyH_take (i := 7) (oi := { dst := some 47, op := _, type := _, pos := _, after := _, guard := _ }) (v := .int .i64 (k : Int)) rfl (by kernel_rfl) (by kernel_rfl) (by kernel_rfl) (fun _ _ _ h => h) (Or.inl ⟨by rfl, fun w' hSw => ?_⟩) (by assumption) ?_
      · ((try dsimp only at hSw); go_simp)
      try simp only [Act.put, List.setIfInBounds_toArray, List.set_cons_zero, List.set_cons_succ]
      refine wpAnyH_take (i := 8) (oi := { dst := some 48, op := _, type := _, pos := _, after := _, guard := _ }) (v := .pointer (some ⟨g1, o1 + k, none⟩)) rfl (by kernel_rfl) (by kernel_rfl) (by kernel_rfl) (fun _ _ _ h => h) (Or.inl ⟨by rfl, fun w' hSw => ?_⟩) (by assumption) ?_
      · ((try dsimp only at hSw); go_simp)
      try simp only [Act.put, List.setIfInBounds_toArray, List.set_cons_zero, List.set_cons_succ]
      refine wpAnyH_take (i := 9) (oi := { dst := some 49, op := _, type := _, pos := _, after := _, guard := _ }) (v := .int .i64 (x : Int)) rfl (by kernel_rfl) (by kernel_rfl) (by kernel_rfl) (fun _ _ _ h => h) (Or.inl ⟨by rfl, fun w' hSw => ?_⟩) (by assumption) ?_
      · ((try dsimp only at hSw); go_simp)
      try simp only [Act.put, List.setIfInBounds_toArray, List.set_cons_zero, List.set_cons_succ]
      refine wpAnyH_take (i := 10) (oi := { dst := some 50, op := _, type := _, pos := _, after := _, guard := _ }) (v := .slice (some ⟨g2, o2, none⟩) ns.length c2) rfl (by kernel_rfl) (by kernel_rfl) (by kernel_rfl) (fun _ _ _ h => h) (Or.inl ⟨by rfl, fun w' hSw => ?_⟩) (by assumption) ?_
      · ((try dsimp only at hSw); go_simp)
      try simp only [Act.put, List.setIfInBounds_toArray, List.set_cons_zero, List.set_cons_succ]
      refine wpAnyH_take (i := 11) (oi := { dst := some 51, op := _, type := _, pos := _, after := _, guard := _ }) (v := .int .i64 (k : Int)) rfl (by kernel_rfl) (by kernel_rfl) (by kernel_rfl) (fun _ _ _ h => h) (Or.inl ⟨by rfl, fun w' hSw => ?_⟩) (by assumption) ?_
      · ((try dsimp only at hSw); go_simp)
      try simp only [Act.put, List.setIfInBounds_toArray, List.set_cons_zero, List.set_cons_succ]
      refine wpAnyH_take (i := 12) (oi := { dst := some 52, op := _, type := _, pos := _, after := _, guard := _ }) (v := .pointer (some ⟨g2, o2 + k, none⟩)) rfl (by kernel_rfl) (by kernel_rfl) (by kernel_rfl) (fun _ _ _ h => h) (Or.inl ⟨by rfl, fun w' hSw => ?_⟩) (by assumption) ?_
      · ((try dsimp only at hSw); go_simp)
      try simp only [Act.put, List.setIfInBounds_toArray, List.set_cons_zero, List.set_cons_succ]
      refine wpAnyH_take (i := 13) (oi := { dst := some 53, op := _, type := _, pos := _, after := _, guard := _ }) (v := .int .i64 (x : Int)) rfl (by kernel_rfl) (by kernel_rfl) (by kernel_rfl) (fun _ _ _ h => h) (Or.inl ⟨by rfl, fun w' hSw => ?_⟩) (by assumption) ?_
      · ((try dsimp only at hSw); go_simp)
      try simp only [Act.put, List.setIfInBounds_toArray, List.set_cons_zero, List.set_cons_succ]
      refine wpAnyH_take (i := 14) (oi := { dst := some 54, op := _, type := _, pos := _, after := _, guard := _ }) (v := .bool false) rfl (by kernel_rfl) (by kernel_rfl) (by kernel_rfl) (fun _ _ _ h => h) (Or.inl ⟨by rfl, fun w' hSw => ?_⟩) (by assumption) ?_
      · ((try dsimp only at hSw); go_simp)
      try simp only [Act.put, List.setIfInBounds_toArray, List.set_cons_zero, List.set_cons_succ]
      refine wpAnyH_take (i := 15) (oi := { dst := some 55, op := _, type := _, pos := _, after := _, guard := _ }) (v := .bool false) rfl (by kernel_rfl) (by kernel_rfl) (by kernel_rfl) (fun _ _ _ h => h) (Or.inl ⟨by rfl, fun w' hSw => ?_⟩) (by assumption) ?_
      · ((try dsimp only at hSw); go_simp)
      try simp only [Act.put, List.setIfInBounds_toArray, List.set_cons_zero, List.set_cons_succ]
      refine wpAnyH_done (by kernel_rfl) ?_ _
      refine NoPanic.normal ?_
      (try simp only [Exit.then])
      go_wp2
      go_roundw
      case rel =>
        first
        | exact ⟨k + 1, by go_num, by omega, HDR.out⟩
        | ((repeat apply Exists.intro); exact ⟨⟨by go_num, by omega, HDR.out⟩, rfl⟩)
      case measure => simp [intOf]; omega
    · obtain rfl : k = ns.length := by omega
      have hbi := HI.out
      replace H0 := Lib.hid (H0.out.on hbi)
      replace H1 := Lib.hid (H1.out.on hbi)
      replace H2 := Lib.hid (H2.out.on hbi)
      replace HA := Lib.hid (HA.out.trans (hbi.mono HA.out.size))
      replace HT := Lib.hid (Tabs.on HT.out hbi)
      clear HI hk hlt hbi H1 H2
      go_wp2_with fail
      refine (seqfront_any A0 l _ c0 i _ H0.out L0.out (by omega) HT.out).mono ?_
      rintro e w3 ⟨A3, n3, c3, l3, er3, rfl, hr, hb⟩
      replace H0 := Lib.hid (H0.out.on hb)
      replace HA := Lib.hid (HA.out.trans (hb.mono HA.out.size))
      replace HT := Lib.hid (Tabs.on HT.out hb)
      have HFN : Hid (0 ≤ i → i < (l.length : Int) → (er3 = 0 ↔ ns.length = 0)) := fun q1 q2 => by
        obtain ⟨k, rfl⟩ : ∃ k : Nat, i = (k : Int) := ⟨i.toNat, by omega⟩
        have h9 := front_needs (l := pkeys l) (i := k) (by rw [pkeys_len]; omega)
        rw [hr.out.2, HNS.out] at h9
        exact h9
      have HI3 : Hid (Below w3.heap.size w3 w3) := Below.refl _ _
      clear hr hb HNS
      go_upto_region 11 with (fail)
      go_cut [10] from 19 (fun qb wx => (∃ bb : Bool, qb = .bool bb ∧ (bb = true ↔ (0 ≤ i ∧ i < (l.length : Int)))) ∧ Hid (Below w3.heap.size w3 wx))
      case first =>
        clear HFN
        by_cases q1 : 0 ≤ i
        · have q3 : i ≥ 0 := q1
          by_cases q2 : i < (l.length : Int)
          · go_wp2_with fail
            go_meet
            case rel => exact ⟨⟨_, rfl, by simp [q1, q2]⟩, HI3.out⟩
          · go_wp2_with fail
            go_meet
            case rel => exact ⟨⟨_, rfl, by simp [q1, q2]⟩, HI3.out⟩
        · have q3 : ¬ i ≥ 0 := q1
          go_wp2_with fail
          go_meet
          case rel => exact ⟨⟨_, rfl, by simp; intros; omega⟩, HI3.out⟩
      case rest =>
        obtain ⟨⟨bb, rfl, hbb⟩, HQ⟩ := hcut
        have hbq := HQ.out
        replace H0 := Lib.hid (H0.out.on hbq)
        replace HA := Lib.hid (HA.out.trans (hbq.mono HA.out.size))
        replace HT := Lib.hid (Tabs.on HT.out hbq)
        have HBB := Lib.hid hbb
        clear HQ hbq HI3 hbb
        generalize wc = w35 at *
        have HI3 : Hid (Below w35.heap.size w35 w35) := Below.refl _ _
        go_upto_region 12 with (fail)
        go_cut [85] from 19 (fun qv wx => qv = .bool false ∧ Hid (Below w35.heap.size w35 wx))
        case first =>
          cases bb
          · clear HFN HBB
            go_wp2_with fail
            go_meet
            case rel => exact ⟨rfl, HI3.out⟩
          · have hin := HBB.out.1 rfl
            have h9 := HFN.out hin.1 hin.2
            by_cases h8 : er3 = 0
            · have h7 := h9.1 h8
              have k1 : (er3 == 0) = true := by simpa using h8
              have k2 : ((ns.length : Int) == 0) = true := by simp [h7]
              have k3 : (ns.length : Int) = 0 := by omega
              clear hin h9 h8 h7 HFN HBB
              go_wp2_with fail
              go_meet
              case rel => exact ⟨rfl, HI3.out⟩
            · have h7 : ¬ ns.length = 0 := fun h => h8 (h9.2 h)
              have k1 : (er3 == 0) = false := by simpa using h8
              have k3 : ¬ (ns.length : Int) = 0 := by omega
              have k2 : ((ns.length : Int) == 0) = false := by simpa using k3
              clear hin h9 h8 h7 HFN HBB
              go_wp2_with fail
              go_meet
              case rel => exact ⟨rfl, HI3.out⟩
        case rest =>
          obtain ⟨rfl, HQ⟩ := hcut
          have hbq := HQ.out
          replace H0 := Lib.hid (H0.out.on hbq)
          replace HA := Lib.hid (HA.out.trans (hbq.mono HA.out.size))
          replace HT := Lib.hid (Tabs.on HT.out hbq)
          clear HQ hbq HI3 HFN HBB
          generalize wc = w4 at *
          -- @P1
          have HI4 : Hid (Below w4.heap.size w4 w4) := Below.refl _ _
          have HO0 : Hid (OwnS w4 w4.heap.size (.slice none 0 0) []) := OwnS.nil _ _
          have HP0 : Hid (Strs w4 w4.heap.size none (toBs [])) := Strs.none_
          go_wp2
          go_loopw [11, 12] (fun sv iv wr => ∃ (k : Nat) (A5 : Option Addr) (n5 c5 : Nat) (ls : List (List UInt8)), sv = .slice A5 n5 c5 ∧ iv = .int .i64 (k : Int) ∧ k ≤ l.length ∧ Hid (OwnS wr w4.heap.size (.slice A5 n5 c5) ls ∧ ls = ((pkeys l).take k).flatMap touchesR ∧ ls.length ≤ 2 * k ∧ n5 = ls.length ∧ Strs wr wr.heap.size A5 (toBs ls) ∧ Below w4.heap.size w4 wr)) (fun _ iv _ => l.length - (intOf iv).toNat)
          case atStart => exact ⟨0, none, 0, 0, [], rfl, rfl, Nat.zero_le _, HO0.out, rfl, Nat.le_refl _, rfl, HP0.out, HI4.out⟩
          case round =>
            clear HI4 HO0 HP0
            obtain ⟨k, A5, n5, c5, ls, rfl, rfl, hk, HI⟩ := hrel
            by_cases hlt : k < l.length
            · -- @P2
              have hS := H0.out.on HI.out.2.2.2.2.2
              obtain ⟨lb, lo, rfl, _, d0, d1, d2, d3, d4, d5⟩ := hS.at_.get hlt
              have hyo := hS.ok l[k] (List.getElem_mem _)
              have hyl := L0.out l[k] (List.getElem_mem _)
              have hft : ((pkeys l).take (k + 1)).flatMap touchesR = ls ++ touchesR l[k].key := by
                rw [flatk_take _ _ (by rw [pkeys_len]; exact hlt), HI.out.2.1]
                simp [pkeys]
              generalize l[k] = y at *
              have CC := Lib.hid (reftouches_any y wr hyo hyl.wd (Tabs.on HT.out HI.out.2.2.2.2.2))
              have HFT := Lib.hid hft
              have htl := touchesR_len y.key
              have u1 : (0 : Int) ≤ (k : Int) := by omega
              have u2 : (k : Int) < (l.length : Int) := by omega
              unfold Pm.val at CC
              clear hS hyo hyl hft
              go_wp2_with fail
              refine CC.out.mono ?_
              rintro e w5 ⟨A6, c6, rfl, hnil, hs2, hb2⟩
              have HB2 := Lib.hid (HI.out.2.2.2.2.2.trans (hb2.mono HI.out.2.2.2.2.2.size))
              have HO2 := Lib.hid (HI.out.1.kept hb2)
              have HN2 := Lib.hid hnil
              have HS2 := Lib.hid hs2
              have hle := HI.out.2.2.1
              obtain ⟨tt, htt⟩ : ∃ tt, touchesR y.key = tt := ⟨_, rfl⟩
              rw [htt] at HS2 HFT htl ⊢
              obtain ⟨M, hM⟩ : ∃ M, M = ls.length + tt.length := ⟨_, rfl⟩
              have HM := Lib.hid hM
              clear hnil hs2 hb2 HI CC hM d0 d1 d2 d3 d4 d5
              go_wp2_with (at_builtin; refine wpList_append_row rfl _ _ rfl w4.heap.size (.slice A5 n5 c5) ls tt rfl HO2.out A6 c6 tt.length rfl rfl HN2.out HS2.out HB2.out.size (by omega) M HM.out ?_)
              intro A7 c7 w6 ho3 hst hg3
              have HI3 : Hid (OwnS w6 w4.heap.size (.slice A7 M c7) (ls ++ tt) ∧ ls ++ tt = ((pkeys l).take (k + 1)).flatMap touchesR ∧ (ls ++ tt).length ≤ 2 * (k + 1) ∧ M = (ls ++ tt).length ∧ Strs w6 w6.heap.size A7 (toBs (ls ++ tt)) ∧ Below w4.heap.size w4 w6) := ⟨ho3, HFT.out.symm, by rw [List.length_append]; omega, by rw [List.length_append]; exact HM.out, hst, below_append HB2.out HO2.out hg3 (Nat.le_refl _)⟩
              clear ho3 hst hg3 HO2 HN2 HS2 HB2 HM HFT
              go_wp2
              go_roundw
              case rel =>
                first
                | exact ⟨k + 1, A7, M, c7, ls ++ tt, rfl, by go_num, by omega, HI3.out⟩
                | ((repeat apply Exists.intro); exact ⟨⟨rfl, by go_num, by omega, HI3.out⟩, rfl⟩)
              case measure => simp [intOf]; omega
            · -- @P3
              obtain rfl : k = l.length := by omega
              have hls : ls = (pkeys l).flatMap touchesR := by
                have h9 := HI.out.2.1
                rw [← pkeys_len, List.take_length] at h9
                exact h9
              subst hls
              have HS5 := Lib.hid HI.out.2.2.2.2.1
              have HN5 := Lib.hid HI.out.2.2.2.1
              have hbi := HI.out.2.2.2.2.2
              replace H0 := Lib.hid (H0.out.on hbi)
              replace HA := Lib.hid (HA.out.trans (hbi.mono HA.out.size))
              replace HT := Lib.hid (Tabs.on HT.out hbi)
              clear HI hk hlt hbi
              go_wp2_with fail
              refine (seqswap_any A0 l _ c0 i _ H0.out L0.out (by omega) HT.out).mono ?_
              rintro e w7 ⟨A8, n8, c8, l8, er8, rfl, hr, hb⟩
              replace HS5 := Lib.hid (HS5.out.on hb)
              replace H0 := Lib.hid (H0.out.on hb)
              replace HA := Lib.hid (HA.out.trans (hb.mono HA.out.size))
              replace HT := Lib.hid (Tabs.on HT.out hb)
              have H8 := Lib.hid hr.out.1
              have E8 := Lib.hid hr.out.2
              have hfl : ((pkeys l).flatMap touchesR).length ≤ 30 := by
                have h9 := flat_le (pkeys l)
                rw [pkeys_len] at h9
                omega
              have HFL := Lib.hid hfl
              have HSL : Hid ((setS ((pkeys l).flatMap touchesR)).length ≤ 30) := Nat.le_trans (setS_le _) hfl
              clear hr hb hfl
              -- @P4
              have qw : IntKind.i64.wrap ((l.length : Int) - 1) = (l.length : Int) - 1 := IntWalk.i64_in _ (by omega)
              by_cases hout : i < 0 ∨ (l.length : Int) - 1 ≤ i
              · have h9 := E8.out
                rw [swap_o (by rw [pkeys_len]; exact hout)] at h9
                obtain ⟨rfl, h8⟩ := Prod.mk.inj h9
                have hl8 : l8 = [] := by
                  have h7 := congrArg List.length h8
                  rw [pkeys_len] at h7
                  exact List.length_eq_zero_iff.1 h7.symm
                subst hl8
                obtain rfl : n8 = 0 := H8.out.len
                clear h9 h8 H8 E8
                by_cases h1 : i < 0
                · -- @P5
                  as_aux_lemma =>
                    clear hout
                    go_wp2_with fail
                    refine (sawake_any _ HT.out).mono ?_
                    rintro e w8 ⟨rfl, hb⟩
                    replace HS5 := Lib.hid (HS5.out.on hb)
                    replace H0 := Lib.hid (H0.out.on hb)
                    replace HA := Lib.hid (HA.out.trans (hb.mono HA.out.size))
                    replace HT := Lib.hid (Tabs.on HT.out hb)
                    clear hb
                    -- @P11w9
                    go_wp2_with fail
                    -- @P18w9
                    refine (seqtouched_any _ l _ c0 _ H0.out L0.out (by omega) HT.out).mono ?_
                    rintro e w9 ⟨A9, c9, rfl, _, hs9, hb⟩
                    replace HS5 := Lib.hid (HS5.out.on hb)
                    replace H0 := Lib.hid (H0.out.on hb)
                    replace HA := Lib.hid (HA.out.trans (hb.mono HA.out.size))
                    replace HT := Lib.hid (Tabs.on HT.out hb)
                    have HS9 := Lib.hid hs9
                    clear hs9 hb
                    -- @P12w9
                    go_wp2_with fail
                    refine (refset_l A5 _ n5 c5 _ HN5.out HS5.out (Nat.le_trans HFL.out (by decide))).mono ?_
                    rintro e wt ⟨A10, c10, rfl, _, hs10, hb⟩
                    replace HS9 := Lib.hid (HS9.out.on hb)
                    replace HA := Lib.hid (HA.out.trans (hb.mono HA.out.size))
                    replace HT := Lib.hid (Tabs.on HT.out hb)
                    have CS := Lib.hid (refsame_l A9 A10 _ c9 c10 _ HS9.out hs10 (Nat.le_trans HSL.out (by decide)))
                    clear hs10 hb HS9 HS5 H0
                    generalize setS ((pkeys l).flatMap touchesR) = zs at *
                    -- @P13
                    go_wp2_with fail
                    -- @P14
                    refine CS.out.mono ?_
                    rintro e wz ⟨rfl, hb⟩
                    have HB := Lib.hid (HA.out.trans (hb.mono HA.out.size))
                    clear hb CS
                    go_wp2
                    go_ret
                    exact ⟨rfl, HB.out⟩
                · -- @P6
                  as_aux_lemma =>
                    have h2 : (l.length : Int) - 1 ≤ i := by omega
                    have h3 : i ≥ (l.length : Int) - 1 := h2
                    clear hout
                    go_wp2_with fail
                    refine (sawake_any _ HT.out).mono ?_
                    rintro e w8 ⟨rfl, hb⟩
                    replace HS5 := Lib.hid (HS5.out.on hb)
                    replace H0 := Lib.hid (H0.out.on hb)
                    replace HA := Lib.hid (HA.out.trans (hb.mono HA.out.size))
                    replace HT := Lib.hid (Tabs.on HT.out hb)
                    clear hb
                    -- @P11w9
                    go_wp2_with fail
                    -- @P18w9
                    refine (seqtouched_any _ l _ c0 _ H0.out L0.out (by omega) HT.out).mono ?_
                    rintro e w9 ⟨A9, c9, rfl, _, hs9, hb⟩
                    replace HS5 := Lib.hid (HS5.out.on hb)
                    replace H0 := Lib.hid (H0.out.on hb)
                    replace HA := Lib.hid (HA.out.trans (hb.mono HA.out.size))
                    replace HT := Lib.hid (Tabs.on HT.out hb)
                    have HS9 := Lib.hid hs9
                    clear hs9 hb
                    -- @P12w9
                    go_wp2_with fail
                    refine (refset_l A5 _ n5 c5 _ HN5.out HS5.out (Nat.le_trans HFL.out (by decide))).mono ?_
                    rintro e wt ⟨A10, c10, rfl, _, hs10, hb⟩
                    replace HS9 := Lib.hid (HS9.out.on hb)
                    replace HA := Lib.hid (HA.out.trans (hb.mono HA.out.size))
                    replace HT := Lib.hid (Tabs.on HT.out hb)
                    have CS := Lib.hid (refsame_l A9 A10 _ c9 c10 _ HS9.out hs10 (Nat.le_trans HSL.out (by decide)))
                    clear hs10 hb HS9 HS5 H0
                    generalize setS ((pkeys l).flatMap touchesR) = zs at *
                    -- @P13
                    go_wp2_with fail
                    -- @P14
                    refine CS.out.mono ?_
                    rintro e wz ⟨rfl, hb⟩
                    have HB := Lib.hid (HA.out.trans (hb.mono HA.out.size))
                    clear hb CS
                    go_wp2
                    go_ret
                    exact ⟨rfl, HB.out⟩
              · -- @P7
                obtain ⟨k, rfl⟩ : ∃ k : Nat, i = (k : Int) := ⟨i.toNat, by omega⟩
                have hk : k + 1 < l.length := by omega
                have hk0 : k < l.length := by omega
                have n1 : ¬ (k : Int) < 0 := by omega
                have n2 : ¬ (l.length : Int) - 1 ≤ (k : Int) := by omega
                have n3 : ¬ (k : Int) ≥ (l.length : Int) - 1 := n2
                obtain ⟨lb, lo, rfl, _, d0, d1, d2, d3, d4, d5⟩ := H0.out.at_.get hk0
                obtain ⟨lb', lo', e, _, f0, f1, f2, f3, f4, f5⟩ := H0.out.at_.get hk
                cases e
                obtain ⟨x, hx⟩ : ∃ x, l[k] = x := ⟨_, rfl⟩
                obtain ⟨y, hy⟩ : ∃ y, l[k + 1] = y := ⟨_, rfl⟩
                have hxo := H0.out.ok l[k] (List.getElem_mem _)
                have hyo := H0.out.ok l[k + 1] (List.getElem_mem _)
                have hxl := L0.out l[k] (List.getElem_mem _)
                have hyl := L0.out l[k + 1] (List.getElem_mem _)
                rw [hx] at d0 d1 d2 d3 d4 d5 hxo hxl
                rw [hy] at f0 f1 f2 f3 f4 f5 hyo hyl
                have HKX : Hid ((pkeys l)[k]'(by rw [pkeys_len]; exact hk0) = x.key ∧ (pkeys l)[k + 1]'(by rw [pkeys_len]; exact hk) = y.key) := ⟨by simp [pkeys, hx], by simp [pkeys, hy]⟩
                clear hout hx hy
                have HSW := Lib.hid H8.out
                go_upto_region 22 with (fail)
                clear HSW
                generalize w7 = wr at *
                have CP := Lib.hid (fun W (hb : Below wr.heap.size wr W) => refpair8_any x y W wr.heap.size hb.size (hxo.below hb) (hyo.below hb) hxl.wd hyl.wd (Tabs.on HT.out hb))
                have HKS : Hid (∀ W, Below wr.heap.size wr W → W.cell? ⟨lb, lo + k * 6, none⟩ = some (.int .i64 x.kind) ∧ W.cell? ⟨lb, lo + k * 6 + 1, none⟩ = some (.string x.p) ∧ W.cell? ⟨lb, lo + k * 6 + 2, none⟩ = some (.string x.dst) ∧ W.cell? ⟨lb, lo + k * 6 + 3, none⟩ = some (.int .i64 x.at_) ∧ W.cell? ⟨lb, lo + k * 6 + 4, none⟩ = some (.slice x.a1 x.old.length x.c1) ∧ W.cell? ⟨lb, lo + k * 6 + 5, none⟩ = some (.slice x.a2 x.new.length x.c2) ∧ W.cell? ⟨lb, lo + (k + 1) * 6, none⟩ = some (.int .i64 y.kind) ∧ W.cell? ⟨lb, lo + (k + 1) * 6 + 1, none⟩ = some (.string y.p) ∧ W.cell? ⟨lb, lo + (k + 1) * 6 + 2, none⟩ = some (.string y.dst) ∧ W.cell? ⟨lb, lo + (k + 1) * 6 + 3, none⟩ = some (.int .i64 y.at_) ∧ W.cell? ⟨lb, lo + (k + 1) * 6 + 4, none⟩ = some (.slice y.a1 y.old.length y.c1) ∧ W.cell? ⟨lb, lo + (k + 1) * 6 + 5, none⟩ = some (.slice y.a2 y.new.length y.c2)) := fun W hW => ⟨cell_on d0 hW, cell_on d1 hW, cell_on d2 hW, cell_on d3 hW, cell_on d4 hW, cell_on d5 hW, cell_on f0 hW, cell_on f1 hW, cell_on f2 hW, cell_on f3 hW, cell_on f4 hW, cell_on f5 hW⟩
                have HDR : Hid (Below wr.heap.size wr wr.drew) := (Below.refl _ _).drew
                have HBW : Hid (wr.heap.size ≤ wr.heap.size) := Nat.le_refl _
                have HLX : Hid (LtK x.key) := hxl
                have HLY : Hid (LtK y.key) := hyl
                have u1 : (0 : Int) ≤ (k : Int) := by omega
                have u2 : (k : Int) < (l.length : Int) := by omega
                have u3 : IntKind.i64.wrap ((k : Int) + 1) = (k : Int) + 1 := IntWalk.i64_in _ (by omega)
                have u4 : (k : Int) + 1 < (l.length : Int) := by omega
                have u5 : (0 : Int) ≤ (k : Int) + 1 := by omega
                have u6 : ((k : Int) + 1).toNat = k + 1 := by omega
                unfold Pm.val at CP
                clear d0 d1 d2 d3 d4 d5 f0 f1 f2 f3 f4 f5 hxo hyo hxl hyl
                go_cut [15, 16, 17] from 19 (fun pb pa pe wx => ∃ (gb ga : Nat) (b a : Pm) (er : Int), pb = .pointer (some ⟨gb, 0, none⟩) ∧ pa = .pointer (some ⟨ga, 0, none⟩) ∧ pe = .int .i64 er ∧ Hid (PrimAt wx gb b ∧ PrimAt wx ga a ∧ b.Ok wx wr.heap.size ∧ a.Ok wx wr.heap.size ∧ pairP x.key y.key = (er, b.key, a.key) ∧ wr.heap.size ≤ gb ∧ wr.heap.size ≤ ga ∧ Below wr.heap.size wr wx))
                case first =>
                  -- @P8
                  clear HSL HFL HS5 HN5 E8 H8 HKX
                  refine wp_region_noPanic ?_
                  refine wp_region_held_drew (S := (fun w' => w'.cell? ⟨lb, lo + k * 6, none⟩ = some (.int .i64 x.kind) ∧ w'.cell? ⟨lb, lo + k * 6 + 1, none⟩ = some (.string x.p) ∧ w'.cell? ⟨lb, lo + k * 6 + 2, none⟩ = some (.string x.dst) ∧ w'.cell? ⟨lb, lo + k * 6 + 3, none⟩ = some (.int .i64 x.at_) ∧ w'.cell? ⟨lb, lo + k * 6 + 4, none⟩ = some (.slice x.a1 x.old.length x.c1) ∧ w'.cell? ⟨lb, lo + k * 6 + 5, none⟩ = some (.slice x.a2 x.new.length x.c2) ∧ w'.cell? ⟨lb, lo + (k + 1) * 6, none⟩ = some (.int .i64 y.kind) ∧ w'.cell? ⟨lb, lo + (k + 1) * 6 + 1, none⟩ = some (.string y.p) ∧ w'.cell? ⟨lb, lo + (k + 1) * 6 + 2, none⟩ = some (.string y.dst) ∧ w'.cell? ⟨lb, lo + (k + 1) * 6 + 3, none⟩ = some (.int .i64 y.at_) ∧ w'.cell? ⟨lb, lo + (k + 1) * 6 + 4, none⟩ = some (.slice y.a1 y.old.length y.c1) ∧ w'.cell? ⟨lb, lo + (k + 1) * 6 + 5, none⟩ = some (.slice y.a2 y.new.length y.c2))) (by kernel_rfl) (HKS.out _ HDR.out) (fun hHeld => ?_)
                  refine wpAnyH_take (i := 0) (oi := { dst := some 132, op := _, type := _, pos := _, after := _, guard := _ }) (v := .slice (some ⟨lb, lo, none⟩) l.length c0) rfl (by kernel_rfl) (by kernel_rfl) (by kernel_rfl) (fun _ _ _ h => h) (Or.inl ⟨by rfl, fun w' hSw => ?_⟩) (by assumption) ?_
                  · ((try dsimp only at hSw); go_simp)
                  try simp only [Act.put, List.setIfInBounds_toArray, List.set_cons_zero, List.set_cons_succ]
                  refine wpAnyH_take (i := 1) (oi := { dst := some 133, op := _, type := _, pos := _, after := _, guard := _ }) (v := .int .i64 (k : Int)) rfl (by kernel_rfl) (by kernel_rfl) (by kernel_rfl) (fun _ _ _ h => h) (Or.inl ⟨by rfl, fun w' hSw => ?_⟩) (by assumption) ?_
                  · ((try dsimp only at hSw); go_simp)
                  try simp only [Act.put, List.setIfInBounds_toArray, List.set_cons_zero, List.set_cons_succ]
                  refine wpAnyH_take (i := 2) (oi := { dst := some 134, op := _, type := _, pos := _, after := _, guard := _ }) (v := .pointer (some ⟨lb, lo + k * 6, none⟩)) rfl (by kernel_rfl) (by kernel_rfl) (by kernel_rfl) (fun _ _ _ h => h) (Or.inl ⟨by rfl, fun w' hSw => ?_⟩) (by assumption) ?_
                  · ((try dsimp only at hSw); go_simp)
                  try simp only [Act.put, List.setIfInBounds_toArray, List.set_cons_zero, List.set_cons_succ]
                  refine wpAnyH_take (i := 3) (oi := { dst := some 135, op := _, type := _, pos := _, after := _, guard := _ }) (v := .agg #[.int .i64 x.kind, .string x.p, .string x.dst, .int .i64 x.at_, .slice x.a1 x.old.length x.c1, .slice x.a2 x.new.length x.c2]) rfl (by kernel_rfl) (by kernel_rfl) (by kernel_rfl) (fun _ _ _ h => h) (Or.inl ⟨by rfl, fun w' hSw => ?_⟩) (by assumption) ?_
                  · ((try dsimp only at hSw); go_simp)
                  try simp only [Act.put, List.setIfInBounds_toArray, List.set_cons_zero, List.set_cons_succ]
                  refine wpAnyH_take (i := 4) (oi := { dst := some 136, op := _, type := _, pos := _, after := _, guard := _ }) (v := .slice (some ⟨lb, lo, none⟩) l.length c0) rfl (by kernel_rfl) (by kernel_rfl) (by kernel_rfl) (fun _ _ _ h => h) (Or.inl ⟨by rfl, fun w' hSw => ?_⟩) (by assumption) ?_
                  · ((try dsimp only at hSw); go_simp)
                  try simp only [Act.put, List.setIfInBounds_toArray, List.set_cons_zero, List.set_cons_succ]
                  refine wpAnyH_take (i := 5) (oi := { dst := some 137, op := _, type := _, pos := _, after := _, guard := _ }) (v := .int .i64 (k : Int)) rfl (by kernel_rfl) (by kernel_rfl) (by kernel_rfl) (fun _ _ _ h => h) (Or.inl ⟨by rfl, fun w' hSw => ?_⟩) (by assumption) ?_
                  · ((try dsimp only at hSw); go_simp)
                  try simp only [Act.put, List.setIfInBounds_toArray, List.set_cons_zero, List.set_cons_succ]
                  refine wpAnyH_take (i := 6) (oi := { dst := some 138, op := _, type := _, pos := _, after := _, guard := _ }) (v := .int .i64 ((k : Int) + 1)) rfl (by kernel_rfl) (by kernel_rfl) (by kernel_rfl) (fun _ _ _ h => h) (Or.inl ⟨by rfl, fun w' hSw => ?_⟩) (by assumption) ?_
                  · ((try dsimp only at hSw); go_simp)
                  try simp only [Act.put, List.setIfInBounds_toArray, List.set_cons_zero, List.set_cons_succ]
                  refine wpAnyH_take (i := 7) (oi := { dst := some 139, op := _, type := _, pos := _, after := _, guard := _ }) (v := .pointer (some ⟨lb, lo + (k + 1) * 6, none⟩)) rfl (by kernel_rfl) (by kernel_rfl) (by kernel_rfl) (fun _ _ _ h => h) (Or.inl ⟨by rfl, fun w' hSw => ?_⟩) (by assumption) ?_
                  · ((try dsimp only at hSw); go_simp)
                  try simp only [Act.put, List.setIfInBounds_toArray, List.set_cons_zero, List.set_cons_succ]
                  refine wpAnyH_take (i := 8) (oi := { dst := some 140, op := _, type := _, pos := _, after := _, guard := _ }) (v := .agg #[.int .i64 y.kind, .string y.p, .string y.dst, .int .i64 y.at_, .slice y.a1 y.old.length y.c1, .slice y.a2 y.new.length y.c2]) rfl (by kernel_rfl) (by kernel_rfl) (by kernel_rfl) (fun _ _ _ h => h) (Or.inl ⟨by rfl, fun w' hSw => ?_⟩) (by assumption) ?_
                  · ((try dsimp only at hSw); go_simp)
                  try simp only [Act.put, List.setIfInBounds_toArray, List.set_cons_zero, List.set_cons_succ]
                  have XB0 := Lib.hid HDR.out
                  generalize hwD : wr.drew = wD at *
                  clear hwD HDR
                  refine wpAnyH_ready (rs := [9, 14, 15]) (by kernel_rfl) (by simp) ?_
                  refine AllReadyH.cons rfl (fun K hK => ?_) (AllReadyH.cons rfl (fun K hK => ?_) (AllReadyH.cons rfl (fun K hK => ?_) AllReadyH.nil))
                  · go_simp
                    go_at_call 26
                    refine (CP.out _ XB0.out).mono ?_
                    rintro e wc1 ⟨b, a, er, rfl, hp, hb⟩
                    have XC1 := Lib.hid (XB0.out.trans (hb.mono XB0.out.size))
                    have HOb := Lib.hid hp.out.1
                    have HOa := Lib.hid hp.out.2.1
                    have HKP := Lib.hid hp.out.2.2
                    clear hb hp
                    refine hK.out _ _ (HKS.out _ XC1.out) (fun hHeld9 => ?_)
                    clear hK K hHeld
                    try simp only [Act.put, List.setIfInBounds_toArray, List.set_cons_zero, List.set_cons_succ]
                    refine wpAnyH_take (i := 10) (oi := { dst := some 131, op := _, type := _, pos := _, after := _, guard := _ }) (v := .tuple #[.agg #[.int .i64 b.kind, .string b.p, .string b.dst, .int .i64 b.at_, .slice b.a1 b.old.length b.c1, .slice b.a2 b.new.length b.c2], .agg #[.int .i64 a.kind, .string a.p, .string a.dst, .int .i64 a.at_, .slice a.a1 a.old.length a.c1, .slice a.a2 a.new.length a.c2], .int .i64 er]) rfl (by kernel_rfl) (by kernel_rfl) (by kernel_rfl) (fun _ _ _ h => h) (Or.inl ⟨by rfl, fun w' hSw => ?_⟩) (by assumption) ?_
                    · ((try dsimp only at hSw); go_simp)
                    try simp only [Act.put, List.setIfInBounds_toArray, List.set_cons_zero, List.set_cons_succ]
                    refine wpAnyH_take (i := 11) (oi := { dst := some 142, op := _, type := _, pos := _, after := _, guard := _ }) (v := .agg #[.int .i64 b.kind, .string b.p, .string b.dst, .int .i64 b.at_, .slice b.a1 b.old.length b.c1, .slice b.a2 b.new.length b.c2]) rfl (by kernel_rfl) (by kernel_rfl) (by kernel_rfl) (fun _ _ _ h => h) (Or.inl ⟨by rfl, fun w' hSw => ?_⟩) (by assumption) ?_
                    · ((try dsimp only at hSw); go_simp)
                    try simp only [Act.put, List.setIfInBounds_toArray, List.set_cons_zero, List.set_cons_succ]
                    refine wpAnyH_take (i := 12) (oi := { dst := some 143, op := _, type := _, pos := _, after := _, guard := _ }) (v := .agg #[.int .i64 a.kind, .string a.p, .string a.dst, .int .i64 a.at_, .slice a.a1 a.old.length a.c1, .slice a.a2 a.new.length a.c2]) rfl (by kernel_rfl) (by kernel_rfl) (by kernel_rfl) (fun _ _ _ h => h) (Or.inl ⟨by rfl, fun w' hSw => ?_⟩) (by assumption) ?_
                    · ((try dsimp only at hSw); go_simp)
                    try simp only [Act.put, List.setIfInBounds_toArray, List.set_cons_zero, List.set_cons_succ]
                    refine wpAnyH_take (i := 13) (oi := { dst := some 144, op := _, type := _, pos := _, after := _, guard := _ }) (v := .int .i64 er) rfl (by kernel_rfl) (by kernel_rfl) (by kernel_rfl) (fun _ _ _ h => h) (Or.inl ⟨by rfl, fun w' hSw => ?_⟩) (by assumption) ?_
                    · ((try dsimp only at hSw); go_simp)
                    try simp only [Act.put, List.setIfInBounds_toArray, List.set_cons_zero, List.set_cons_succ]
                    refine wpAnyH_ready (rs := [14, 15]) (by kernel_rfl) (by simp) ?_
                    refine AllReadyH.cons rfl (fun K hK => ?_) (AllReadyH.cons rfl (fun K hK => ?_) AllReadyH.nil)
                    · have hb : Below wc1.heap.size wc1 (wc1.alloc (.cells #[.int .i64 0, .string ⟨#[]⟩, .string ⟨#[]⟩, .int .i64 0, .slice none 0 0, .slice none 0 0] 33)) := (Below.refl _ _).alloc (Nat.le_refl _) _
                      have XA2 := Lib.hid (XC1.out.trans (hb.mono XC1.out.size))
                      have hbB := hb.mono (Nat.le_trans HBW.out XC1.out.size)
                      replace HOb := Lib.hid (HOb.out.below hbB)
                      replace HOa := Lib.hid (HOa.out.below hbB)
                      clear hbB
                      have HGb : Hid (PrimAt (wc1.alloc (.cells #[.int .i64 0, .string ⟨#[]⟩, .string ⟨#[]⟩, .int .i64 0, .slice none 0 0, .slice none 0 0] 33)) wc1.heap.size ⟨0, ⟨#[]⟩, ⟨#[]⟩, 0, none, 0, [], none, 0, []⟩) := PrimAt.new_ wc1 ⟨0, ⟨#[]⟩, ⟨#[]⟩, 0, none, 0, [], none, 0, []⟩
                      have HLb : Hid (wr.heap.size ≤ wc1.heap.size) := XC1.out.size
                      clear hb
                      go_simp
                      refine hK.out _ _ (HKS.out _ XA2.out) (fun hHeld14 => ?_)
                      clear hK K hHeld9
                      try simp only [Act.put, List.setIfInBounds_toArray, List.set_cons_zero, List.set_cons_succ]
                      generalize hwn : (wc1.alloc (.cells #[.int .i64 0, .string ⟨#[]⟩, .string ⟨#[]⟩, .int .i64 0, .slice none 0 0, .slice none 0 0] 33)) = wa2 at *
                      clear hwn
                      refine wpAnyH_ready (rs := [15]) (by kernel_rfl) (by simp) ?_
                      refine AllReadyH.cons rfl (fun K hK => ?_) AllReadyH.nil
                      · have HNE : Hid (wc1.heap.size ≠ wa2.heap.size) := by show _ ≠ _; have h1 := HGb.out.lt; omega
                        have hb : Below wa2.heap.size wa2 (wa2.alloc (.cells #[.int .i64 0, .string ⟨#[]⟩, .string ⟨#[]⟩, .int .i64 0, .slice none 0 0, .slice none 0 0] 33)) := (Below.refl _ _).alloc (Nat.le_refl _) _
                        have XA3 := Lib.hid (XA2.out.trans (hb.mono XA2.out.size))
                        replace HGb := Lib.hid (HGb.out.on hb)
                        have hbB := hb.mono (Nat.le_trans HBW.out XA2.out.size)
                        replace HOb := Lib.hid (HOb.out.below hbB)
                        replace HOa := Lib.hid (HOa.out.below hbB)
                        clear hbB
                        have HGa : Hid (PrimAt (wa2.alloc (.cells #[.int .i64 0, .string ⟨#[]⟩, .string ⟨#[]⟩, .int .i64 0, .slice none 0 0, .slice none 0 0] 33)) wa2.heap.size ⟨0, ⟨#[]⟩, ⟨#[]⟩, 0, none, 0, [], none, 0, []⟩) := PrimAt.new_ wa2 ⟨0, ⟨#[]⟩, ⟨#[]⟩, 0, none, 0, [], none, 0, []⟩
                        have HLa : Hid (wr.heap.size ≤ wa2.heap.size) := XA2.out.size
                        clear hb
                        go_simp
                        refine hK.out _ _ (HKS.out _ XA3.out) (fun hHeld15 => ?_)
                        clear hK K hHeld14
                        try simp only [Act.put, List.setIfInBounds_toArray, List.set_cons_zero, List.set_cons_succ]
                        generalize hwn : (wa2.alloc (.cells #[.int .i64 0, .string ⟨#[]⟩, .string ⟨#[]⟩, .int .i64 0, .slice none 0 0, .slice none 0 0] 33)) = wa3 at *
                        clear hwn
                        refine wpAnyH_ready (rs := [16]) (by kernel_rfl) (by simp) ?_
                        refine AllReadyH.cons rfl (fun K hK => ?_) AllReadyH.nil
                        have m0 := HGb.out.c0
                        have mf0 := HGb.out.fz 0
                        have m1 := HGb.out.c1
                        have mf1 := HGb.out.fz 1
                        have m2 := HGb.out.c2
                        have mf2 := HGb.out.fz 2
                        have m3 := HGb.out.c3
                        have mf3 := HGb.out.fz 3
                        have m4 := HGb.out.c4
                        have mf4 := HGb.out.fz 4
                        have m5 := HGb.out.c5
                        have mf5 := HGb.out.fz 5
                        have g1 : wa3.grownBy ((((((wa3.setCell ⟨wc1.heap.size, 0, none⟩ (.int .i64 b.kind)).setCell ⟨wc1.heap.size, 1, none⟩ (.string b.p)).setCell ⟨wc1.heap.size, 2, none⟩ (.string b.dst)).setCell ⟨wc1.heap.size, 3, none⟩ (.int .i64 b.at_)).setCell ⟨wc1.heap.size, 4, none⟩ (.slice b.a1 b.old.length b.c1)).setCell ⟨wc1.heap.size, 5, none⟩ (.slice b.a2 b.new.length b.c2)) (some wc1.heap.size) := setPrim_grown wa3 wc1.heap.size b
                        have hbs : Below wr.heap.size wr ((((((wa3.setCell ⟨wc1.heap.size, 0, none⟩ (.int .i64 b.kind)).setCell ⟨wc1.heap.size, 1, none⟩ (.string b.p)).setCell ⟨wc1.heap.size, 2, none⟩ (.string b.dst)).setCell ⟨wc1.heap.size, 3, none⟩ (.int .i64 b.at_)).setCell ⟨wc1.heap.size, 4, none⟩ (.slice b.a1 b.old.length b.c1)).setCell ⟨wc1.heap.size, 5, none⟩ (.slice b.a2 b.new.length b.c2)) := below_prim b XA3.out HLb.out XA3.out.size
                        have hB1 : Below wr.heap.size wa3 ((((((wa3.setCell ⟨wc1.heap.size, 0, none⟩ (.int .i64 b.kind)).setCell ⟨wc1.heap.size, 1, none⟩ (.string b.p)).setCell ⟨wc1.heap.size, 2, none⟩ (.string b.dst)).setCell ⟨wc1.heap.size, 3, none⟩ (.int .i64 b.at_)).setCell ⟨wc1.heap.size, 4, none⟩ (.slice b.a1 b.old.length b.c1)).setCell ⟨wc1.heap.size, 5, none⟩ (.slice b.a2 b.new.length b.c2)) := below_prim b (Below.refl wr.heap.size wa3) (Nat.le_trans HBW.out HLb.out) (Nat.le_trans HBW.out XA3.out.size)
                        have hPb : PrimAt ((((((wa3.setCell ⟨wc1.heap.size, 0, none⟩ (.int .i64 b.kind)).setCell ⟨wc1.heap.size, 1, none⟩ (.string b.p)).setCell ⟨wc1.heap.size, 2, none⟩ (.string b.dst)).setCell ⟨wc1.heap.size, 3, none⟩ (.int .i64 b.at_)).setCell ⟨wc1.heap.size, 4, none⟩ (.slice b.a1 b.old.length b.c1)).setCell ⟨wc1.heap.size, 5, none⟩ (.slice b.a2 b.new.length b.c2)) (wc1.heap.size) b := setPrim_at HGb.out b
                        have hPa : PrimAt ((((((wa3.setCell ⟨wc1.heap.size, 0, none⟩ (.int .i64 b.kind)).setCell ⟨wc1.heap.size, 1, none⟩ (.string b.p)).setCell ⟨wc1.heap.size, 2, none⟩ (.string b.dst)).setCell ⟨wc1.heap.size, 3, none⟩ (.int .i64 b.at_)).setCell ⟨wc1.heap.size, 4, none⟩ (.slice b.a1 b.old.length b.c1)).setCell ⟨wc1.heap.size, 5, none⟩ (.slice b.a2 b.new.length b.c2)) (wa2.heap.size) ⟨0, ⟨#[]⟩, ⟨#[]⟩, 0, none, 0, [], none, 0, []⟩ := HGa.out.grown g1 (by simpa using HNE.out)
                        have XBs := Lib.hid hbs
                        have HPb := Lib.hid hPb
                        replace HGa := Lib.hid hPa
                        replace HOb := Lib.hid (HOb.out.below hB1)
                        replace HOa := Lib.hid (HOa.out.below hB1)
                        clear g1 hbs hB1 hPb hPa HGb
                        go_simp
                        refine hK.out _ _ (HKS.out _ XBs.out) (fun hHeld16 => ?_)
                        clear hK K hHeld15 m0 mf0 m1 mf1 m2 mf2 m3 mf3 m4 mf4 m5 mf5
                        try simp only [Act.put, List.setIfInBounds_toArray, List.set_cons_zero, List.set_cons_succ]
                        generalize hwn : ((((((wa3.setCell ⟨wc1.heap.size, 0, none⟩ (.int .i64 b.kind)).setCell ⟨wc1.heap.size, 1, none⟩ (.string b.p)).setCell ⟨wc1.heap.size, 2, none⟩ (.string b.dst)).setCell ⟨wc1.heap.size, 3, none⟩ (.int .i64 b.at_)).setCell ⟨wc1.heap.size, 4, none⟩ (.slice b.a1 b.old.length b.c1)).setCell ⟨wc1.heap.size, 5, none⟩ (.slice b.a2 b.new.length b.c2)) = ws at *
                        clear hwn
                        refine wpAnyH_ready (rs := [17]) (by kernel_rfl) (by simp) ?_
                        refine AllReadyH.cons rfl (fun K hK => ?_) AllReadyH.nil
                        have m0 := HGa.out.c0
                        have mf0 := HGa.out.fz 0
                        have m1 := HGa.out.c1
                        have mf1 := HGa.out.fz 1
                        have m2 := HGa.out.c2
                        have mf2 := HGa.out.fz 2
                        have m3 := HGa.out.c3
                        have mf3 := HGa.out.fz 3
                        have m4 := HGa.out.c4
                        have mf4 := HGa.out.fz 4
                        have m5 := HGa.out.c5
                        have mf5 := HGa.out.fz 5
                        have g1 : ws.grownBy ((((((ws.setCell ⟨wa2.heap.size, 0, none⟩ (.int .i64 a.kind)).setCell ⟨wa2.heap.size, 1, none⟩ (.string a.p)).setCell ⟨wa2.heap.size, 2, none⟩ (.string a.dst)).setCell ⟨wa2.heap.size, 3, none⟩ (.int .i64 a.at_)).setCell ⟨wa2.heap.size, 4, none⟩ (.slice a.a1 a.old.length a.c1)).setCell ⟨wa2.heap.size, 5, none⟩ (.slice a.a2 a.new.length a.c2)) (some wa2.heap.size) := setPrim_grown ws wa2.heap.size a
                        have hbs : Below wr.heap.size wr ((((((ws.setCell ⟨wa2.heap.size, 0, none⟩ (.int .i64 a.kind)).setCell ⟨wa2.heap.size, 1, none⟩ (.string a.p)).setCell ⟨wa2.heap.size, 2, none⟩ (.string a.dst)).setCell ⟨wa2.heap.size, 3, none⟩ (.int .i64 a.at_)).setCell ⟨wa2.heap.size, 4, none⟩ (.slice a.a1 a.old.length a.c1)).setCell ⟨wa2.heap.size, 5, none⟩ (.slice a.a2 a.new.length a.c2)) := below_prim a XBs.out HLa.out XBs.out.size
                        have hB1 : Below wr.heap.size ws ((((((ws.setCell ⟨wa2.heap.size, 0, none⟩ (.int .i64 a.kind)).setCell ⟨wa2.heap.size, 1, none⟩ (.string a.p)).setCell ⟨wa2.heap.size, 2, none⟩ (.string a.dst)).setCell ⟨wa2.heap.size, 3, none⟩ (.int .i64 a.at_)).setCell ⟨wa2.heap.size, 4, none⟩ (.slice a.a1 a.old.length a.c1)).setCell ⟨wa2.heap.size, 5, none⟩ (.slice a.a2 a.new.length a.c2)) := below_prim a (Below.refl wr.heap.size ws) (Nat.le_trans HBW.out HLa.out) (Nat.le_trans HBW.out XBs.out.size)
                        have hPa : PrimAt ((((((ws.setCell ⟨wa2.heap.size, 0, none⟩ (.int .i64 a.kind)).setCell ⟨wa2.heap.size, 1, none⟩ (.string a.p)).setCell ⟨wa2.heap.size, 2, none⟩ (.string a.dst)).setCell ⟨wa2.heap.size, 3, none⟩ (.int .i64 a.at_)).setCell ⟨wa2.heap.size, 4, none⟩ (.slice a.a1 a.old.length a.c1)).setCell ⟨wa2.heap.size, 5, none⟩ (.slice a.a2 a.new.length a.c2)) (wa2.heap.size) a := setPrim_at HGa.out a
                        have hPb : PrimAt ((((((ws.setCell ⟨wa2.heap.size, 0, none⟩ (.int .i64 a.kind)).setCell ⟨wa2.heap.size, 1, none⟩ (.string a.p)).setCell ⟨wa2.heap.size, 2, none⟩ (.string a.dst)).setCell ⟨wa2.heap.size, 3, none⟩ (.int .i64 a.at_)).setCell ⟨wa2.heap.size, 4, none⟩ (.slice a.a1 a.old.length a.c1)).setCell ⟨wa2.heap.size, 5, none⟩ (.slice a.a2 a.new.length a.c2)) (wc1.heap.size) b := HPb.out.grown g1 (by simpa using Ne.symm HNE.out)
                        have XBt := Lib.hid hbs
                        replace HPb := Lib.hid hPb
                        have HPa := Lib.hid hPa
                        replace HOb := Lib.hid (HOb.out.below hB1)
                        replace HOa := Lib.hid (HOa.out.below hB1)
                        clear g1 hbs hB1 hPb hPa HGa
                        go_simp
                        refine hK.out _ _ (HKS.out _ XBt.out) (fun hHeld17 => ?_)
                        clear hK K hHeld16 m0 mf0 m1 mf1 m2 mf2 m3 mf3 m4 mf4 m5 mf5
                        try simp only [Act.put, List.setIfInBounds_toArray, List.set_cons_zero, List.set_cons_succ]
                        generalize hwn : ((((((ws.setCell ⟨wa2.heap.size, 0, none⟩ (.int .i64 a.kind)).setCell ⟨wa2.heap.size, 1, none⟩ (.string a.p)).setCell ⟨wa2.heap.size, 2, none⟩ (.string a.dst)).setCell ⟨wa2.heap.size, 3, none⟩ (.int .i64 a.at_)).setCell ⟨wa2.heap.size, 4, none⟩ (.slice a.a1 a.old.length a.c1)).setCell ⟨wa2.heap.size, 5, none⟩ (.slice a.a2 a.new.length a.c2)) = wt at *
                        clear hwn
                        refine wpAnyH_take (i := 18) (oi := { dst := some 17, op := _, type := _, pos := _, after := _, guard := _ }) (v := .int .i64 er) rfl (by kernel_rfl) (by kernel_rfl) (by kernel_rfl) (fun _ _ _ h => h) (Or.inl ⟨by rfl, fun w' hSw => ?_⟩) (by assumption) ?_
                        · ((try dsimp only at hSw); go_simp)
                        try simp only [Act.put, List.setIfInBounds_toArray, List.set_cons_zero, List.set_cons_succ]
                        refine wpAnyH_done (by kernel_rfl) ?_ _
                        refine NoPanic.normal ?_
                        go_wp2_with fail
                        go_meet
                        case rel => exact ⟨wc1.heap.size, wa2.heap.size, b, a, er, rfl, rfl, rfl, ⟨HPb.out, HPa.out, HOb.out, HOa.out, HKP.out, HLb.out, HLa.out, XBt.out⟩⟩
                    · have hb : Below wc1.heap.size wc1 (wc1.alloc (.cells #[.int .i64 0, .string ⟨#[]⟩, .string ⟨#[]⟩, .int .i64 0, .slice none 0 0, .slice none 0 0] 33)) := (Below.refl _ _).alloc (Nat.le_refl _) _
                      have XA4 := Lib.hid (XC1.out.trans (hb.mono XC1.out.size))
                      have hbB := hb.mono (Nat.le_trans HBW.out XC1.out.size)
                      replace HOb := Lib.hid (HOb.out.below hbB)
                      replace HOa := Lib.hid (HOa.out.below hbB)
                      clear hbB
                      have HGa : Hid (PrimAt (wc1.alloc (.cells #[.int .i64 0, .string ⟨#[]⟩, .string ⟨#[]⟩, .int .i64 0, .slice none 0 0, .slice none 0 0] 33)) wc1.heap.size ⟨0, ⟨#[]⟩, ⟨#[]⟩, 0, none, 0, [], none, 0, []⟩) := PrimAt.new_ wc1 ⟨0, ⟨#[]⟩, ⟨#[]⟩, 0, none, 0, [], none, 0, []⟩
                      have HLa : Hid (wr.heap.size ≤ wc1.heap.size) := XC1.out.size
                      clear hb
                      go_simp
                      refine hK.out _ _ (HKS.out _ XA4.out) (fun hHeld15 => ?_)
                      clear hK K hHeld9
                      try simp only [Act.put, List.setIfInBounds_toArray, List.set_cons_zero, List.set_cons_succ]
                      generalize hwn : (wc1.alloc (.cells #[.int .i64 0, .string ⟨#[]⟩, .string ⟨#[]⟩, .int .i64 0, .slice none 0 0, .slice none 0 0] 33)) = wa4 at *
                      clear hwn
                      refine wpAnyH_ready (rs := [14]) (by kernel_rfl) (by simp) ?_
                      refine AllReadyH.cons rfl (fun K hK => ?_) AllReadyH.nil
                      · have HNE : Hid (wa4.heap.size ≠ wc1.heap.size) := by show _ ≠ _; have h1 := HGa.out.lt; omega
                        have hb : Below wa4.heap.size wa4 (wa4.alloc (.cells #[.int .i64 0, .string ⟨#[]⟩, .string ⟨#[]⟩, .int .i64 0, .slice none 0 0, .slice none 0 0] 33)) := (Below.refl _ _).alloc (Nat.le_refl _) _
                        have XA5 := Lib.hid (XA4.out.trans (hb.mono XA4.out.size))
                        replace HGa := Lib.hid (HGa.out.on hb)
                        have hbB := hb.mono (Nat.le_trans HBW.out XA4.out.size)
                        replace HOb := Lib.hid (HOb.out.below hbB)
                        replace HOa := Lib.hid (HOa.out.below hbB)
                        clear hbB
                        have HGb : Hid (PrimAt (wa4.alloc (.cells #[.int .i64 0, .string ⟨#[]⟩, .string ⟨#[]⟩, .int .i64 0, .slice none 0 0, .slice none 0 0] 33)) wa4.heap.size ⟨0, ⟨#[]⟩, ⟨#[]⟩, 0, none, 0, [], none, 0, []⟩) := PrimAt.new_ wa4 ⟨0, ⟨#[]⟩, ⟨#[]⟩, 0, none, 0, [], none, 0, []⟩
                        have HLb : Hid (wr.heap.size ≤ wa4.heap.size) := XA4.out.size
                        clear hb
                        go_simp
                        refine hK.out _ _ (HKS.out _ XA5.out) (fun hHeld14 => ?_)
                        clear hK K hHeld15
                        try simp only [Act.put, List.setIfInBounds_toArray, List.set_cons_zero, List.set_cons_succ]
                        generalize hwn : (wa4.alloc (.cells #[.int .i64 0, .string ⟨#[]⟩, .string ⟨#[]⟩, .int .i64 0, .slice none 0 0, .slice none 0 0] 33)) = wa5 at *
                        clear hwn
                        refine wpAnyH_ready (rs := [16]) (by kernel_rfl) (by simp) ?_
                        refine AllReadyH.cons rfl (fun K hK => ?_) AllReadyH.nil
                        have m0 := HGb.out.c0
                        have mf0 := HGb.out.fz 0
                        have m1 := HGb.out.c1
                        have mf1 := HGb.out.fz 1
                        have m2 := HGb.out.c2
                        have mf2 := HGb.out.fz 2
                        have m3 := HGb.out.c3
                        have mf3 := HGb.out.fz 3
                        have m4 := HGb.out.c4
                        have mf4 := HGb.out.fz 4
                        have m5 := HGb.out.c5
                        have mf5 := HGb.out.fz 5
                        have g1 : wa5.grownBy ((((((wa5.setCell ⟨wa4.heap.size, 0, none⟩ (.int .i64 b.kind)).setCell ⟨wa4.heap.size, 1, none⟩ (.string b.p)).setCell ⟨wa4.heap.size, 2, none⟩ (.string b.dst)).setCell ⟨wa4.heap.size, 3, none⟩ (.int .i64 b.at_)).setCell ⟨wa4.heap.size, 4, none⟩ (.slice b.a1 b.old.length b.c1)).setCell ⟨wa4.heap.size, 5, none⟩ (.slice b.a2 b.new.length b.c2)) (some wa4.heap.size) := setPrim_grown wa5 wa4.heap.size b
                        have hbs : Below wr.heap.size wr ((((((wa5.setCell ⟨wa4.heap.size, 0, none⟩ (.int .i64 b.kind)).setCell ⟨wa4.heap.size, 1, none⟩ (.string b.p)).setCell ⟨wa4.heap.size, 2, none⟩ (.string b.dst)).setCell ⟨wa4.heap.size, 3, none⟩ (.int .i64 b.at_)).setCell ⟨wa4.heap.size, 4, none⟩ (.slice b.a1 b.old.length b.c1)).setCell ⟨wa4.heap.size, 5, none⟩ (.slice b.a2 b.new.length b.c2)) := below_prim b XA5.out HLb.out XA5.out.size
                        have hB1 : Below wr.heap.size wa5 ((((((wa5.setCell ⟨wa4.heap.size, 0, none⟩ (.int .i64 b.kind)).setCell ⟨wa4.heap.size, 1, none⟩ (.string b.p)).setCell ⟨wa4.heap.size, 2, none⟩ (.string b.dst)).setCell ⟨wa4.heap.size, 3, none⟩ (.int .i64 b.at_)).setCell ⟨wa4.heap.size, 4, none⟩ (.slice b.a1 b.old.length b.c1)).setCell ⟨wa4.heap.size, 5, none⟩ (.slice b.a2 b.new.length b.c2)) := below_prim b (Below.refl wr.heap.size wa5) (Nat.le_trans HBW.out HLb.out) (Nat.le_trans HBW.out XA5.out.size)
                        have hPb : PrimAt ((((((wa5.setCell ⟨wa4.heap.size, 0, none⟩ (.int .i64 b.kind)).setCell ⟨wa4.heap.size, 1, none⟩ (.string b.p)).setCell ⟨wa4.heap.size, 2, none⟩ (.string b.dst)).setCell ⟨wa4.heap.size, 3, none⟩ (.int .i64 b.at_)).setCell ⟨wa4.heap.size, 4, none⟩ (.slice b.a1 b.old.length b.c1)).setCell ⟨wa4.heap.size, 5, none⟩ (.slice b.a2 b.new.length b.c2)) (wa4.heap.size) b := setPrim_at HGb.out b
                        have hPa : PrimAt ((((((wa5.setCell ⟨wa4.heap.size, 0, none⟩ (.int .i64 b.kind)).setCell ⟨wa4.heap.size, 1, none⟩ (.string b.p)).setCell ⟨wa4.heap.size, 2, none⟩ (.string b.dst)).setCell ⟨wa4.heap.size, 3, none⟩ (.int .i64 b.at_)).setCell ⟨wa4.heap.size, 4, none⟩ (.slice b.a1 b.old.length b.c1)).setCell ⟨wa4.heap.size, 5, none⟩ (.slice b.a2 b.new.length b.c2)) (wc1.heap.size) ⟨0, ⟨#[]⟩, ⟨#[]⟩, 0, none, 0, [], none, 0, []⟩ := HGa.out.grown g1 (by simpa using HNE.out)
                        have XBs := Lib.hid hbs
                        have HPb := Lib.hid hPb
                        replace HGa := Lib.hid hPa
                        replace HOb := Lib.hid (HOb.out.below hB1)
                        replace HOa := Lib.hid (HOa.out.below hB1)
                        clear g1 hbs hB1 hPb hPa HGb
                        go_simp
                        refine hK.out _ _ (HKS.out _ XBs.out) (fun hHeld16 => ?_)
                        clear hK K hHeld14 m0 mf0 m1 mf1 m2 mf2 m3 mf3 m4 mf4 m5 mf5
                        try simp only [Act.put, List.setIfInBounds_toArray, List.set_cons_zero, List.set_cons_succ]
                        generalize hwn : ((((((wa5.setCell ⟨wa4.heap.size, 0, none⟩ (.int .i64 b.kind)).setCell ⟨wa4.heap.size, 1, none⟩ (.string b.p)).setCell ⟨wa4.heap.size, 2, none⟩ (.string b.dst)).setCell ⟨wa4.heap.size, 3, none⟩ (.int .i64 b.at_)).setCell ⟨wa4.heap.size, 4, none⟩ (.slice b.a1 b.old.length b.c1)).setCell ⟨wa4.heap.size, 5, none⟩ (.slice b.a2 b.new.length b.c2)) = ws at *
                        clear hwn
                        refine wpAnyH_ready (rs := [17]) (by kernel_rfl) (by simp) ?_
                        refine AllReadyH.cons rfl (fun K hK => ?_) AllReadyH.nil
                        have m0 := HGa.out.c0
                        have mf0 := HGa.out.fz 0
                        have m1 := HGa.out.c1
                        have mf1 := HGa.out.fz 1
                        have m2 := HGa.out.c2
                        have mf2 := HGa.out.fz 2
                        have m3 := HGa.out.c3
                        have mf3 := HGa.out.fz 3
                        have m4 := HGa.out.c4
                        have mf4 := HGa.out.fz 4
                        have m5 := HGa.out.c5
                        have mf5 := HGa.out.fz 5
                        have g1 : ws.grownBy ((((((ws.setCell ⟨wc1.heap.size, 0, none⟩ (.int .i64 a.kind)).setCell ⟨wc1.heap.size, 1, none⟩ (.string a.p)).setCell ⟨wc1.heap.size, 2, none⟩ (.string a.dst)).setCell ⟨wc1.heap.size, 3, none⟩ (.int .i64 a.at_)).setCell ⟨wc1.heap.size, 4, none⟩ (.slice a.a1 a.old.length a.c1)).setCell ⟨wc1.heap.size, 5, none⟩ (.slice a.a2 a.new.length a.c2)) (some wc1.heap.size) := setPrim_grown ws wc1.heap.size a
                        have hbs : Below wr.heap.size wr ((((((ws.setCell ⟨wc1.heap.size, 0, none⟩ (.int .i64 a.kind)).setCell ⟨wc1.heap.size, 1, none⟩ (.string a.p)).setCell ⟨wc1.heap.size, 2, none⟩ (.string a.dst)).setCell ⟨wc1.heap.size, 3, none⟩ (.int .i64 a.at_)).setCell ⟨wc1.heap.size, 4, none⟩ (.slice a.a1 a.old.length a.c1)).setCell ⟨wc1.heap.size, 5, none⟩ (.slice a.a2 a.new.length a.c2)) := below_prim a XBs.out HLa.out XBs.out.size
                        have hB1 : Below wr.heap.size ws ((((((ws.setCell ⟨wc1.heap.size, 0, none⟩ (.int .i64 a.kind)).setCell ⟨wc1.heap.size, 1, none⟩ (.string a.p)).setCell ⟨wc1.heap.size, 2, none⟩ (.string a.dst)).setCell ⟨wc1.heap.size, 3, none⟩ (.int .i64 a.at_)).setCell ⟨wc1.heap.size, 4, none⟩ (.slice a.a1 a.old.length a.c1)).setCell ⟨wc1.heap.size, 5, none⟩ (.slice a.a2 a.new.length a.c2)) := below_prim a (Below.refl wr.heap.size ws) (Nat.le_trans HBW.out HLa.out) (Nat.le_trans HBW.out XBs.out.size)
                        have hPa : PrimAt ((((((ws.setCell ⟨wc1.heap.size, 0, none⟩ (.int .i64 a.kind)).setCell ⟨wc1.heap.size, 1, none⟩ (.string a.p)).setCell ⟨wc1.heap.size, 2, none⟩ (.string a.dst)).setCell ⟨wc1.heap.size, 3, none⟩ (.int .i64 a.at_)).setCell ⟨wc1.heap.size, 4, none⟩ (.slice a.a1 a.old.length a.c1)).setCell ⟨wc1.heap.size, 5, none⟩ (.slice a.a2 a.new.length a.c2)) (wc1.heap.size) a := setPrim_at HGa.out a
                        have hPb : PrimAt ((((((ws.setCell ⟨wc1.heap.size, 0, none⟩ (.int .i64 a.kind)).setCell ⟨wc1.heap.size, 1, none⟩ (.string a.p)).setCell ⟨wc1.heap.size, 2, none⟩ (.string a.dst)).setCell ⟨wc1.heap.size, 3, none⟩ (.int .i64 a.at_)).setCell ⟨wc1.heap.size, 4, none⟩ (.slice a.a1 a.old.length a.c1)).setCell ⟨wc1.heap.size, 5, none⟩ (.slice a.a2 a.new.length a.c2)) (wa4.heap.size) b := HPb.out.grown g1 (by simpa using Ne.symm HNE.out)
                        have XBt := Lib.hid hbs
                        replace HPb := Lib.hid hPb
                        have HPa := Lib.hid hPa
                        replace HOb := Lib.hid (HOb.out.below hB1)
                        replace HOa := Lib.hid (HOa.out.below hB1)
                        clear g1 hbs hB1 hPb hPa HGa
                        go_simp
                        refine hK.out _ _ (HKS.out _ XBt.out) (fun hHeld17 => ?_)
                        clear hK K hHeld16 m0 mf0 m1 mf1 m2 mf2 m3 mf3 m4 mf4 m5 mf5
                        try simp only [Act.put, List.setIfInBounds_toArray, List.set_cons_zero, List.set_cons_succ]
                        generalize hwn : ((((((ws.setCell ⟨wc1.heap.size, 0, none⟩ (.int .i64 a.kind)).setCell ⟨wc1.heap.size, 1, none⟩ (.string a.p)).setCell ⟨wc1.heap.size, 2, none⟩ (.string a.dst)).setCell ⟨wc1.heap.size, 3, none⟩ (.int .i64 a.at_)).setCell ⟨wc1.heap.size, 4, none⟩ (.slice a.a1 a.old.length a.c1)).setCell ⟨wc1.heap.size, 5, none⟩ (.slice a.a2 a.new.length a.c2)) = wt at *
                        clear hwn
                        refine wpAnyH_take (i := 18) (oi := { dst := some 17, op := _, type := _, pos := _, after := _, guard := _ }) (v := .int .i64 er) rfl (by kernel_rfl) (by kernel_rfl) (by kernel_rfl) (fun _ _ _ h => h) (Or.inl ⟨by rfl, fun w' hSw => ?_⟩) (by assumption) ?_
                        · ((try dsimp only at hSw); go_simp)
                        try simp only [Act.put, List.setIfInBounds_toArray, List.set_cons_zero, List.set_cons_succ]
                        refine wpAnyH_done (by kernel_rfl) ?_ _
                        refine NoPanic.normal ?_
                        go_wp2_with fail
                        go_meet
                        case rel => exact ⟨wa4.heap.size, wc1.heap.size, b, a, er, rfl, rfl, rfl, ⟨HPb.out, HPa.out, HOb.out, HOa.out, HKP.out, HLb.out, HLa.out, XBt.out⟩⟩
                  · have hb : Below wD.heap.size wD (wD.alloc (.cells #[.int .i64 0, .string ⟨#[]⟩, .string ⟨#[]⟩, .int .i64 0, .slice none 0 0, .slice none 0 0] 33)) := (Below.refl _ _).alloc (Nat.le_refl _) _
                    have XA6 := Lib.hid (XB0.out.trans (hb.mono XB0.out.size))
                    have HGb : Hid (PrimAt (wD.alloc (.cells #[.int .i64 0, .string ⟨#[]⟩, .string ⟨#[]⟩, .int .i64 0, .slice none 0 0, .slice none 0 0] 33)) wD.heap.size ⟨0, ⟨#[]⟩, ⟨#[]⟩, 0, none, 0, [], none, 0, []⟩) := PrimAt.new_ wD ⟨0, ⟨#[]⟩, ⟨#[]⟩, 0, none, 0, [], none, 0, []⟩
                    have HLb : Hid (wr.heap.size ≤ wD.heap.size) := XB0.out.size
                    clear hb
                    go_simp
                    refine hK.out _ _ (HKS.out _ XA6.out) (fun hHeld14 => ?_)
                    clear hK K hHeld
                    try simp only [Act.put, List.setIfInBounds_toArray, List.set_cons_zero, List.set_cons_succ]
                    generalize hwn : (wD.alloc (.cells #[.int .i64 0, .string ⟨#[]⟩, .string ⟨#[]⟩, .int .i64 0, .slice none 0 0, .slice none 0 0] 33)) = wa6 at *
                    clear hwn
                    refine wpAnyH_ready (rs := [9, 15]) (by kernel_rfl) (by simp) ?_
                    refine AllReadyH.cons rfl (fun K hK => ?_) (AllReadyH.cons rfl (fun K hK => ?_) AllReadyH.nil)
                    · go_simp
                      go_at_call 26
                      refine (CP.out _ XA6.out).mono ?_
                      rintro e wc7 ⟨b, a, er, rfl, hp, hb⟩
                      have XC7 := Lib.hid (XA6.out.trans (hb.mono XA6.out.size))
                      have HOb := Lib.hid hp.out.1
                      have HOa := Lib.hid hp.out.2.1
                      have HKP := Lib.hid hp.out.2.2
                      replace HGb := Lib.hid (HGb.out.on hb)
                      clear hb hp
                      refine hK.out _ _ (HKS.out _ XC7.out) (fun hHeld9 => ?_)
                      clear hK K hHeld14
                      try simp only [Act.put, List.setIfInBounds_toArray, List.set_cons_zero, List.set_cons_succ]
                      refine wpAnyH_take (i := 10) (oi := { dst := some 131, op := _, type := _, pos := _, after := _, guard := _ }) (v := .tuple #[.agg #[.int .i64 b.kind, .string b.p, .string b.dst, .int .i64 b.at_, .slice b.a1 b.old.length b.c1, .slice b.a2 b.new.length b.c2], .agg #[.int .i64 a.kind, .string a.p, .string a.dst, .int .i64 a.at_, .slice a.a1 a.old.length a.c1, .slice a.a2 a.new.length a.c2], .int .i64 er]) rfl (by kernel_rfl) (by kernel_rfl) (by kernel_rfl) (fun _ _ _ h => h) (Or.inl ⟨by rfl, fun w' hSw => ?_⟩) (by assumption) ?_
                      · ((try dsimp only at hSw); go_simp)
                      try simp only [Act.put, List.setIfInBounds_toArray, List.set_cons_zero, List.set_cons_succ]
                      refine wpAnyH_take (i := 11) (oi := { dst := some 142, op := _, type := _, pos := _, after := _, guard := _ }) (v := .agg #[.int .i64 b.kind, .string b.p, .string b.dst, .int .i64 b.at_, .slice b.a1 b.old.length b.c1, .slice b.a2 b.new.length b.c2]) rfl (by kernel_rfl) (by kernel_rfl) (by kernel_rfl) (fun _ _ _ h => h) (Or.inl ⟨by rfl, fun w' hSw => ?_⟩) (by assumption) ?_
                      · ((try dsimp only at hSw); go_simp)
                      try simp only [Act.put, List.setIfInBounds_toArray, List.set_cons_zero, List.set_cons_succ]
                      refine wpAnyH_take (i := 12) (oi := { dst := some 143, op := _, type := _, pos := _, after := _, guard := _ }) (v := .agg #[.int .i64 a.kind, .string a.p, .string a.dst, .int .i64 a.at_, .slice a.a1 a.old.length a.c1, .slice a.a2 a.new.length a.c2]) rfl (by kernel_rfl) (by kernel_rfl) (by kernel_rfl) (fun _ _ _ h => h) (Or.inl ⟨by rfl, fun w' hSw => ?_⟩) (by assumption) ?_
                      · ((try dsimp only at hSw); go_simp)
                      try simp only [Act.put, List.setIfInBounds_toArray, List.set_cons_zero, List.set_cons_succ]
                      refine wpAnyH_take (i := 13) (oi := { dst := some 144, op := _, type := _, pos := _, after := _, guard := _ }) (v := .int .i64 er) rfl (by kernel_rfl) (by kernel_rfl) (by kernel_rfl) (fun _ _ _ h => h) (Or.inl ⟨by rfl, fun w' hSw => ?_⟩) (by assumption) ?_
                      · ((try dsimp only at hSw); go_simp)
                      try simp only [Act.put, List.setIfInBounds_toArray, List.set_cons_zero, List.set_cons_succ]
                      refine wpAnyH_ready (rs := [15]) (by kernel_rfl) (by simp) ?_
                      refine AllReadyH.cons rfl (fun K hK => ?_) AllReadyH.nil
                      · have HNE : Hid (wD.heap.size ≠ wc7.heap.size) := by show _ ≠ _; have h1 := HGb.out.lt; omega
                        have hb : Below wc7.heap.size wc7 (wc7.alloc (.cells #[.int .i64 0, .string ⟨#[]⟩, .string ⟨#[]⟩, .int .i64 0, .slice none 0 0, .slice none 0 0] 33)) := (Below.refl _ _).alloc (Nat.le_refl _) _
                        have XA8 := Lib.hid (XC7.out.trans (hb.mono XC7.out.size))
                        replace HGb := Lib.hid (HGb.out.on hb)
                        have hbB := hb.mono (Nat.le_trans HBW.out XC7.out.size)
                        replace HOb := Lib.hid (HOb.out.below hbB)
                        replace HOa := Lib.hid (HOa.out.below hbB)
                        clear hbB
                        have HGa : Hid (PrimAt (wc7.alloc (.cells #[.int .i64 0, .string ⟨#[]⟩, .string ⟨#[]⟩, .int .i64 0, .slice none 0 0, .slice none 0 0] 33)) wc7.heap.size ⟨0, ⟨#[]⟩, ⟨#[]⟩, 0, none, 0, [], none, 0, []⟩) := PrimAt.new_ wc7 ⟨0, ⟨#[]⟩, ⟨#[]⟩, 0, none, 0, [], none, 0, []⟩
                        have HLa : Hid (wr.heap.size ≤ wc7.heap.size) := XC7.out.size
                        clear hb
                        go_simp
                        refine hK.out _ _ (HKS.out _ XA8.out) (fun hHeld15 => ?_)
                        clear hK K hHeld9
                        try simp only [Act.put, List.setIfInBounds_toArray, List.set_cons_zero, List.set_cons_succ]
                        generalize hwn : (wc7.alloc (.cells #[.int .i64 0, .string ⟨#[]⟩, .string ⟨#[]⟩, .int .i64 0, .slice none 0 0, .slice none 0 0] 33)) = wa8 at *
                        clear hwn
                        refine wpAnyH_ready (rs := [16]) (by kernel_rfl) (by simp) ?_
                        refine AllReadyH.cons rfl (fun K hK => ?_) AllReadyH.nil
                        have m0 := HGb.out.c0
                        have mf0 := HGb.out.fz 0
                        have m1 := HGb.out.c1
                        have mf1 := HGb.out.fz 1
                        have m2 := HGb.out.c2
                        have mf2 := HGb.out.fz 2
                        have m3 := HGb.out.c3
                        have mf3 := HGb.out.fz 3
                        have m4 := HGb.out.c4
                        have mf4 := HGb.out.fz 4
                        have m5 := HGb.out.c5
                        have mf5 := HGb.out.fz 5
                        have g1 : wa8.grownBy ((((((wa8.setCell ⟨wD.heap.size, 0, none⟩ (.int .i64 b.kind)).setCell ⟨wD.heap.size, 1, none⟩ (.string b.p)).setCell ⟨wD.heap.size, 2, none⟩ (.string b.dst)).setCell ⟨wD.heap.size, 3, none⟩ (.int .i64 b.at_)).setCell ⟨wD.heap.size, 4, none⟩ (.slice b.a1 b.old.length b.c1)).setCell ⟨wD.heap.size, 5, none⟩ (.slice b.a2 b.new.length b.c2)) (some wD.heap.size) := setPrim_grown wa8 wD.heap.size b
                        have hbs : Below wr.heap.size wr ((((((wa8.setCell ⟨wD.heap.size, 0, none⟩ (.int .i64 b.kind)).setCell ⟨wD.heap.size, 1, none⟩ (.string b.p)).setCell ⟨wD.heap.size, 2, none⟩ (.string b.dst)).setCell ⟨wD.heap.size, 3, none⟩ (.int .i64 b.at_)).setCell ⟨wD.heap.size, 4, none⟩ (.slice b.a1 b.old.length b.c1)).setCell ⟨wD.heap.size, 5, none⟩ (.slice b.a2 b.new.length b.c2)) := below_prim b XA8.out HLb.out XA8.out.size
                        have hB1 : Below wr.heap.size wa8 ((((((wa8.setCell ⟨wD.heap.size, 0, none⟩ (.int .i64 b.kind)).setCell ⟨wD.heap.size, 1, none⟩ (.string b.p)).setCell ⟨wD.heap.size, 2, none⟩ (.string b.dst)).setCell ⟨wD.heap.size, 3, none⟩ (.int .i64 b.at_)).setCell ⟨wD.heap.size, 4, none⟩ (.slice b.a1 b.old.length b.c1)).setCell ⟨wD.heap.size, 5, none⟩ (.slice b.a2 b.new.length b.c2)) := below_prim b (Below.refl wr.heap.size wa8) (Nat.le_trans HBW.out HLb.out) (Nat.le_trans HBW.out XA8.out.size)
                        have hPb : PrimAt ((((((wa8.setCell ⟨wD.heap.size, 0, none⟩ (.int .i64 b.kind)).setCell ⟨wD.heap.size, 1, none⟩ (.string b.p)).setCell ⟨wD.heap.size, 2, none⟩ (.string b.dst)).setCell ⟨wD.heap.size, 3, none⟩ (.int .i64 b.at_)).setCell ⟨wD.heap.size, 4, none⟩ (.slice b.a1 b.old.length b.c1)).setCell ⟨wD.heap.size, 5, none⟩ (.slice b.a2 b.new.length b.c2)) (wD.heap.size) b := setPrim_at HGb.out b
                        have hPa : PrimAt ((((((wa8.setCell ⟨wD.heap.size, 0, none⟩ (.int .i64 b.kind)).setCell ⟨wD.heap.size, 1, none⟩ (.string b.p)).setCell ⟨wD.heap.size, 2, none⟩ (.string b.dst)).setCell ⟨wD.heap.size, 3, none⟩ (.int .i64 b.at_)).setCell ⟨wD.heap.size, 4, none⟩ (.slice b.a1 b.old.length b.c1)).setCell ⟨wD.heap.size, 5, none⟩ (.slice b.a2 b.new.length b.c2)) (wc7.heap.size) ⟨0, ⟨#[]⟩, ⟨#[]⟩, 0, none, 0, [], none, 0, []⟩ := HGa.out.grown g1 (by simpa using HNE.out)
                        have XBs := Lib.hid hbs
                        have HPb := Lib.hid hPb
                        replace HGa := Lib.hid hPa
                        replace HOb := Lib.hid (HOb.out.below hB1)
                        replace HOa := Lib.hid (HOa.out.below hB1)
                        clear g1 hbs hB1 hPb hPa HGb
                        go_simp
                        refine hK.out _ _ (HKS.out _ XBs.out) (fun hHeld16 => ?_)
                        clear hK K hHeld15 m0 mf0 m1 mf1 m2 mf2 m3 mf3 m4 mf4 m5 mf5
                        try simp only [Act.put, List.setIfInBounds_toArray, List.set_cons_zero, List.set_cons_succ]
                        generalize hwn : ((((((wa8.setCell ⟨wD.heap.size, 0, none⟩ (.int .i64 b.kind)).setCell ⟨wD.heap.size, 1, none⟩ (.string b.p)).setCell ⟨wD.heap.size, 2, none⟩ (.string b.dst)).setCell ⟨wD.heap.size, 3, none⟩ (.int .i64 b.at_)).setCell ⟨wD.heap.size, 4, none⟩ (.slice b.a1 b.old.length b.c1)).setCell ⟨wD.heap.size, 5, none⟩ (.slice b.a2 b.new.length b.c2)) = ws at *
                        clear hwn
                        refine wpAnyH_ready (rs := [17]) (by kernel_rfl) (by simp) ?_
                        refine AllReadyH.cons rfl (fun K hK => ?_) AllReadyH.nil
                        have m0 := HGa.out.c0
                        have mf0 := HGa.out.fz 0
                        have m1 := HGa.out.c1
                        have mf1 := HGa.out.fz 1
                        have m2 := HGa.out.c2
                        have mf2 := HGa.out.fz 2
                        have m3 := HGa.out.c3
                        have mf3 := HGa.out.fz 3
                        have m4 := HGa.out.c4
                        have mf4 := HGa.out.fz 4
                        have m5 := HGa.out.c5
                        have mf5 := HGa.out.fz 5
                        have g1 : ws.grownBy ((((((ws.setCell ⟨wc7.heap.size, 0, none⟩ (.int .i64 a.kind)).setCell ⟨wc7.heap.size, 1, none⟩ (.string a.p)).setCell ⟨wc7.heap.size, 2, none⟩ (.string a.dst)).setCell ⟨wc7.heap.size, 3, none⟩ (.int .i64 a.at_)).setCell ⟨wc7.heap.size, 4, none⟩ (.slice a.a1 a.old.length a.c1)).setCell ⟨wc7.heap.size, 5, none⟩ (.slice a.a2 a.new.length a.c2)) (some wc7.heap.size) := setPrim_grown ws wc7.heap.size a
                        have hbs : Below wr.heap.size wr ((((((ws.setCell ⟨wc7.heap.size, 0, none⟩ (.int .i64 a.kind)).setCell ⟨wc7.heap.size, 1, none⟩ (.string a.p)).setCell ⟨wc7.heap.size, 2, none⟩ (.string a.dst)).setCell ⟨wc7.heap.size, 3, none⟩ (.int .i64 a.at_)).setCell ⟨wc7.heap.size, 4, none⟩ (.slice a.a1 a.old.length a.c1)).setCell ⟨wc7.heap.size, 5, none⟩ (.slice a.a2 a.new.length a.c2)) := below_prim a XBs.out HLa.out XBs.out.size
                        have hB1 : Below wr.heap.size ws ((((((ws.setCell ⟨wc7.heap.size, 0, none⟩ (.int .i64 a.kind)).setCell ⟨wc7.heap.size, 1, none⟩ (.string a.p)).setCell ⟨wc7.heap.size, 2, none⟩ (.string a.dst)).setCell ⟨wc7.heap.size, 3, none⟩ (.int .i64 a.at_)).setCell ⟨wc7.heap.size, 4, none⟩ (.slice a.a1 a.old.length a.c1)).setCell ⟨wc7.heap.size, 5, none⟩ (.slice a.a2 a.new.length a.c2)) := below_prim a (Below.refl wr.heap.size ws) (Nat.le_trans HBW.out HLa.out) (Nat.le_trans HBW.out XBs.out.size)
                        have hPa : PrimAt ((((((ws.setCell ⟨wc7.heap.size, 0, none⟩ (.int .i64 a.kind)).setCell ⟨wc7.heap.size, 1, none⟩ (.string a.p)).setCell ⟨wc7.heap.size, 2, none⟩ (.string a.dst)).setCell ⟨wc7.heap.size, 3, none⟩ (.int .i64 a.at_)).setCell ⟨wc7.heap.size, 4, none⟩ (.slice a.a1 a.old.length a.c1)).setCell ⟨wc7.heap.size, 5, none⟩ (.slice a.a2 a.new.length a.c2)) (wc7.heap.size) a := setPrim_at HGa.out a
                        have hPb : PrimAt ((((((ws.setCell ⟨wc7.heap.size, 0, none⟩ (.int .i64 a.kind)).setCell ⟨wc7.heap.size, 1, none⟩ (.string a.p)).setCell ⟨wc7.heap.size, 2, none⟩ (.string a.dst)).setCell ⟨wc7.heap.size, 3, none⟩ (.int .i64 a.at_)).setCell ⟨wc7.heap.size, 4, none⟩ (.slice a.a1 a.old.length a.c1)).setCell ⟨wc7.heap.size, 5, none⟩ (.slice a.a2 a.new.length a.c2)) (wD.heap.size) b := HPb.out.grown g1 (by simpa using Ne.symm HNE.out)
                        have XBt := Lib.hid hbs
                        replace HPb := Lib.hid hPb
                        have HPa := Lib.hid hPa
                        replace HOb := Lib.hid (HOb.out.below hB1)
                        replace HOa := Lib.hid (HOa.out.below hB1)
                        clear g1 hbs hB1 hPb hPa HGa
                        go_simp
                        refine hK.out _ _ (HKS.out _ XBt.out) (fun hHeld17 => ?_)
                        clear hK K hHeld16 m0 mf0 m1 mf1 m2 mf2 m3 mf3 m4 mf4 m5 mf5
                        try simp only [Act.put, List.setIfInBounds_toArray, List.set_cons_zero, List.set_cons_succ]
                        generalize hwn : ((((((ws.setCell ⟨wc7.heap.size, 0, none⟩ (.int .i64 a.kind)).setCell ⟨wc7.heap.size, 1, none⟩ (.string a.p)).setCell ⟨wc7.heap.size, 2, none⟩ (.string a.dst)).setCell ⟨wc7.heap.size, 3, none⟩ (.int .i64 a.at_)).setCell ⟨wc7.heap.size, 4, none⟩ (.slice a.a1 a.old.length a.c1)).setCell ⟨wc7.heap.size, 5, none⟩ (.slice a.a2 a.new.length a.c2)) = wt at *
                        clear hwn
                        refine wpAnyH_take (i := 18) (oi := { dst := some 17, op := _, type := _, pos := _, after := _, guard := _ }) (v := .int .i64 er) rfl (by kernel_rfl) (by kernel_rfl) (by kernel_rfl) (fun _ _ _ h => h) (Or.inl ⟨by rfl, fun w' hSw => ?_⟩) (by assumption) ?_
                        · ((try dsimp only at hSw); go_simp)
                        try simp only [Act.put, List.setIfInBounds_toArray, List.set_cons_zero, List.set_cons_succ]
                        refine wpAnyH_done (by kernel_rfl) ?_ _
                        refine NoPanic.normal ?_
                        go_wp2_with fail
                        go_meet
                        case rel => exact ⟨wD.heap.size, wc7.heap.size, b, a, er, rfl, rfl, rfl, ⟨HPb.out, HPa.out, HOb.out, HOa.out, HKP.out, HLb.out, HLa.out, XBt.out⟩⟩
                    · have HNE : Hid (wD.heap.size ≠ wa6.heap.size) := by show _ ≠ _; have h1 := HGb.out.lt; omega
                      have hb : Below wa6.heap.size wa6 (wa6.alloc (.cells #[.int .i64 0, .string ⟨#[]⟩, .string ⟨#[]⟩, .int .i64 0, .slice none 0 0, .slice none 0 0] 33)) := (Below.refl _ _).alloc (Nat.le_refl _) _
                      have XA9 := Lib.hid (XA6.out.trans (hb.mono XA6.out.size))
                      replace HGb := Lib.hid (HGb.out.on hb)
                      have HGa : Hid (PrimAt (wa6.alloc (.cells #[.int .i64 0, .string ⟨#[]⟩, .string ⟨#[]⟩, .int .i64 0, .slice none 0 0, .slice none 0 0] 33)) wa6.heap.size ⟨0, ⟨#[]⟩, ⟨#[]⟩, 0, none, 0, [], none, 0, []⟩) := PrimAt.new_ wa6 ⟨0, ⟨#[]⟩, ⟨#[]⟩, 0, none, 0, [], none, 0, []⟩
                      have HLa : Hid (wr.heap.size ≤ wa6.heap.size) := XA6.out.size
                      clear hb
                      go_simp
                      refine hK.out _ _ (HKS.out _ XA9.out) (fun hHeld15 => ?_)
                      clear hK K hHeld14
                      try simp only [Act.put, List.setIfInBounds_toArray, List.set_cons_zero, List.set_cons_succ]
                      generalize hwn : (wa6.alloc (.cells #[.int .i64 0, .string ⟨#[]⟩, .string ⟨#[]⟩, .int .i64 0, .slice none 0 0, .slice none 0 0] 33)) = wa9 at *
                      clear hwn
                      refine wpAnyH_ready (rs := [9]) (by kernel_rfl) (by simp) ?_
                      refine AllReadyH.cons rfl (fun K hK => ?_) AllReadyH.nil
                      · go_simp
                        go_at_call 26
                        refine (CP.out _ XA9.out).mono ?_
                        rintro e wc10 ⟨b, a, er, rfl, hp, hb⟩
                        have XC10 := Lib.hid (XA9.out.trans (hb.mono XA9.out.size))
                        have HOb := Lib.hid hp.out.1
                        have HOa := Lib.hid hp.out.2.1
                        have HKP := Lib.hid hp.out.2.2
                        replace HGb := Lib.hid (HGb.out.on hb)
                        replace HGa := Lib.hid (HGa.out.on hb)
                        clear hb hp
                        refine hK.out _ _ (HKS.out _ XC10.out) (fun hHeld9 => ?_)
                        clear hK K hHeld15
                        try simp only [Act.put, List.setIfInBounds_toArray, List.set_cons_zero, List.set_cons_succ]
                        refine wpAnyH_take (i := 10) (oi := { dst := some 131, op := _, type := _, pos := _, after := _, guard := _ }) (v := .tuple #[.agg #[.int .i64 b.kind, .string b.p, .string b.dst, .int .i64 b.at_, .slice b.a1 b.old.length b.c1, .slice b.a2 b.new.length b.c2], .agg #[.int .i64 a.kind, .string a.p, .string a.dst, .int .i64 a.at_, .slice a.a1 a.old.length a.c1, .slice a.a2 a.new.length a.c2], .int .i64 er]) rfl (by kernel_rfl) (by kernel_rfl) (by kernel_rfl) (fun _ _ _ h => h) (Or.inl ⟨by rfl, fun w' hSw => ?_⟩) (by assumption) ?_
                        · ((try dsimp only at hSw); go_simp)
                        try simp only [Act.put, List.setIfInBounds_toArray, List.set_cons_zero, List.set_cons_succ]
                        refine wpAnyH_take (i := 11) (oi := { dst := some 142, op := _, type := _, pos := _, after := _, guard := _ }) (v := .agg #[.int .i64 b.kind, .string b.p, .string b.dst, .int .i64 b.at_, .slice b.a1 b.old.length b.c1, .slice b.a2 b.new.length b.c2]) rfl (by kernel_rfl) (by kernel_rfl) (by kernel_rfl) (fun _ _ _ h => h) (Or.inl ⟨by rfl, fun w' hSw => ?_⟩) (by assumption) ?_
                        · ((try dsimp only at hSw); go_simp)
                        try simp only [Act.put, List.setIfInBounds_toArray, List.set_cons_zero, List.set_cons_succ]
                        refine wpAnyH_take (i := 12) (oi := { dst := some 143, op := _, type := _, pos := _, after := _, guard := _ }) (v := .agg #[.int .i64 a.kind, .string a.p, .string a.dst, .int .i64 a.at_, .slice a.a1 a.old.length a.c1, .slice a.a2 a.new.length a.c2]) rfl (by kernel_rfl) (by kernel_rfl) (by kernel_rfl) (fun _ _ _ h => h) (Or.inl ⟨by rfl, fun w' hSw => ?_⟩) (by assumption) ?_
                        · ((try dsimp only at hSw); go_simp)
                        try simp only [Act.put, List.setIfInBounds_toArray, List.set_cons_zero, List.set_cons_succ]
                        refine wpAnyH_take (i := 13) (oi := { dst := some 144, op := _, type := _, pos := _, after := _, guard := _ }) (v := .int .i64 er) rfl (by kernel_rfl) (by kernel_rfl) (by kernel_rfl) (fun _ _ _ h => h) (Or.inl ⟨by rfl, fun w' hSw => ?_⟩) (by assumption) ?_
                        · ((try dsimp only at hSw); go_simp)
                        try simp only [Act.put, List.setIfInBounds_toArray, List.set_cons_zero, List.set_cons_succ]
                        refine wpAnyH_ready (rs := [16]) (by kernel_rfl) (by simp) ?_
                        refine AllReadyH.cons rfl (fun K hK => ?_) AllReadyH.nil
                        have m0 := HGb.out.c0
                        have mf0 := HGb.out.fz 0
                        have m1 := HGb.out.c1
                        have mf1 := HGb.out.fz 1
                        have m2 := HGb.out.c2
                        have mf2 := HGb.out.fz 2
                        have m3 := HGb.out.c3
                        have mf3 := HGb.out.fz 3
                        have m4 := HGb.out.c4
                        have mf4 := HGb.out.fz 4
                        have m5 := HGb.out.c5
                        have mf5 := HGb.out.fz 5
                        have g1 : wc10.grownBy ((((((wc10.setCell ⟨wD.heap.size, 0, none⟩ (.int .i64 b.kind)).setCell ⟨wD.heap.size, 1, none⟩ (.string b.p)).setCell ⟨wD.heap.size, 2, none⟩ (.string b.dst)).setCell ⟨wD.heap.size, 3, none⟩ (.int .i64 b.at_)).setCell ⟨wD.heap.size, 4, none⟩ (.slice b.a1 b.old.length b.c1)).setCell ⟨wD.heap.size, 5, none⟩ (.slice b.a2 b.new.length b.c2)) (some wD.heap.size) := setPrim_grown wc10 wD.heap.size b
                        have hbs : Below wr.heap.size wr ((((((wc10.setCell ⟨wD.heap.size, 0, none⟩ (.int .i64 b.kind)).setCell ⟨wD.heap.size, 1, none⟩ (.string b.p)).setCell ⟨wD.heap.size, 2, none⟩ (.string b.dst)).setCell ⟨wD.heap.size, 3, none⟩ (.int .i64 b.at_)).setCell ⟨wD.heap.size, 4, none⟩ (.slice b.a1 b.old.length b.c1)).setCell ⟨wD.heap.size, 5, none⟩ (.slice b.a2 b.new.length b.c2)) := below_prim b XC10.out HLb.out XC10.out.size
                        have hB1 : Below wr.heap.size wc10 ((((((wc10.setCell ⟨wD.heap.size, 0, none⟩ (.int .i64 b.kind)).setCell ⟨wD.heap.size, 1, none⟩ (.string b.p)).setCell ⟨wD.heap.size, 2, none⟩ (.string b.dst)).setCell ⟨wD.heap.size, 3, none⟩ (.int .i64 b.at_)).setCell ⟨wD.heap.size, 4, none⟩ (.slice b.a1 b.old.length b.c1)).setCell ⟨wD.heap.size, 5, none⟩ (.slice b.a2 b.new.length b.c2)) := below_prim b (Below.refl wr.heap.size wc10) (Nat.le_trans HBW.out HLb.out) (Nat.le_trans HBW.out XC10.out.size)
                        have hPb : PrimAt ((((((wc10.setCell ⟨wD.heap.size, 0, none⟩ (.int .i64 b.kind)).setCell ⟨wD.heap.size, 1, none⟩ (.string b.p)).setCell ⟨wD.heap.size, 2, none⟩ (.string b.dst)).setCell ⟨wD.heap.size, 3, none⟩ (.int .i64 b.at_)).setCell ⟨wD.heap.size, 4, none⟩ (.slice b.a1 b.old.length b.c1)).setCell ⟨wD.heap.size, 5, none⟩ (.slice b.a2 b.new.length b.c2)) (wD.heap.size) b := setPrim_at HGb.out b
                        have hPa : PrimAt ((((((wc10.setCell ⟨wD.heap.size, 0, none⟩ (.int .i64 b.kind)).setCell ⟨wD.heap.size, 1, none⟩ (.string b.p)).setCell ⟨wD.heap.size, 2, none⟩ (.string b.dst)).setCell ⟨wD.heap.size, 3, none⟩ (.int .i64 b.at_)).setCell ⟨wD.heap.size, 4, none⟩ (.slice b.a1 b.old.length b.c1)).setCell ⟨wD.heap.size, 5, none⟩ (.slice b.a2 b.new.length b.c2)) (wa6.heap.size) ⟨0, ⟨#[]⟩, ⟨#[]⟩, 0, none, 0, [], none, 0, []⟩ := HGa.out.grown g1 (by simpa using HNE.out)
                        have XBs := Lib.hid hbs
                        have HPb := Lib.hid hPb
                        replace HGa := Lib.hid hPa
                        replace HOb := Lib.hid (HOb.out.below hB1)
                        replace HOa := Lib.hid (HOa.out.below hB1)
                        clear g1 hbs hB1 hPb hPa HGb
                        go_simp
                        refine hK.out _ _ (HKS.out _ XBs.out) (fun hHeld16 => ?_)
                        clear hK K hHeld9 m0 mf0 m1 mf1 m2 mf2 m3 mf3 m4 mf4 m5 mf5
                        try simp only [Act.put, List.setIfInBounds_toArray, List.set_cons_zero, List.set_cons_succ]
                        generalize hwn : ((((((wc10.setCell ⟨wD.heap.size, 0, none⟩ (.int .i64 b.kind)).setCell ⟨wD.heap.size, 1, none⟩ (.string b.p)).setCell ⟨wD.heap.size, 2, none⟩ (.string b.dst)).setCell ⟨wD.heap.size, 3, none⟩ (.int .i64 b.at_)).setCell ⟨wD.heap.size, 4, none⟩ (.slice b.a1 b.old.length b.c1)).setCell ⟨wD.heap.size, 5, none⟩ (.slice b.a2 b.new.length b.c2)) = ws at *
                        clear hwn
                        refine wpAnyH_ready (rs := [17]) (by kernel_rfl) (by simp) ?_
                        refine AllReadyH.cons rfl (fun K hK => ?_) AllReadyH.nil
                        have m0 := HGa.out.c0
                        have mf0 := HGa.out.fz 0
                        have m1 := HGa.out.c1
                        have mf1 := HGa.out.fz 1
                        have m2 := HGa.out.c2
                        have mf2 := HGa.out.fz 2
                        have m3 := HGa.out.c3
                        have mf3 := HGa.out.fz 3
                        have m4 := HGa.out.c4
                        have mf4 := HGa.out.fz 4
                        have m5 := HGa.out.c5
                        have mf5 := HGa.out.fz 5
                        have g1 : ws.grownBy ((((((ws.setCell ⟨wa6.heap.size, 0, none⟩ (.int .i64 a.kind)).setCell ⟨wa6.heap.size, 1, none⟩ (.string a.p)).setCell ⟨wa6.heap.size, 2, none⟩ (.string a.dst)).setCell ⟨wa6.heap.size, 3, none⟩ (.int .i64 a.at_)).setCell ⟨wa6.heap.size, 4, none⟩ (.slice a.a1 a.old.length a.c1)).setCell ⟨wa6.heap.size, 5, none⟩ (.slice a.a2 a.new.length a.c2)) (some wa6.heap.size) := setPrim_grown ws wa6.heap.size a
                        have hbs : Below wr.heap.size wr ((((((ws.setCell ⟨wa6.heap.size, 0, none⟩ (.int .i64 a.kind)).setCell ⟨wa6.heap.size, 1, none⟩ (.string a.p)).setCell ⟨wa6.heap.size, 2, none⟩ (.string a.dst)).setCell ⟨wa6.heap.size, 3, none⟩ (.int .i64 a.at_)).setCell ⟨wa6.heap.size, 4, none⟩ (.slice a.a1 a.old.length a.c1)).setCell ⟨wa6.heap.size, 5, none⟩ (.slice a.a2 a.new.length a.c2)) := below_prim a XBs.out HLa.out XBs.out.size
                        have hB1 : Below wr.heap.size ws ((((((ws.setCell ⟨wa6.heap.size, 0, none⟩ (.int .i64 a.kind)).setCell ⟨wa6.heap.size, 1, none⟩ (.string a.p)).setCell ⟨wa6.heap.size, 2, none⟩ (.string a.dst)).setCell ⟨wa6.heap.size, 3, none⟩ (.int .i64 a.at_)).setCell ⟨wa6.heap.size, 4, none⟩ (.slice a.a1 a.old.length a.c1)).setCell ⟨wa6.heap.size, 5, none⟩ (.slice a.a2 a.new.length a.c2)) := below_prim a (Below.refl wr.heap.size ws) (Nat.le_trans HBW.out HLa.out) (Nat.le_trans HBW.out XBs.out.size)
                        have hPa : PrimAt ((((((ws.setCell ⟨wa6.heap.size, 0, none⟩ (.int .i64 a.kind)).setCell ⟨wa6.heap.size, 1, none⟩ (.string a.p)).setCell ⟨wa6.heap.size, 2, none⟩ (.string a.dst)).setCell ⟨wa6.heap.size, 3, none⟩ (.int .i64 a.at_)).setCell ⟨wa6.heap.size, 4, none⟩ (.slice a.a1 a.old.length a.c1)).setCell ⟨wa6.heap.size, 5, none⟩ (.slice a.a2 a.new.length a.c2)) (wa6.heap.size) a := setPrim_at HGa.out a
                        have hPb : PrimAt ((((((ws.setCell ⟨wa6.heap.size, 0, none⟩ (.int .i64 a.kind)).setCell ⟨wa6.heap.size, 1, none⟩ (.string a.p)).setCell ⟨wa6.heap.size, 2, none⟩ (.string a.dst)).setCell ⟨wa6.heap.size, 3, none⟩ (.int .i64 a.at_)).setCell ⟨wa6.heap.size, 4, none⟩ (.slice a.a1 a.old.length a.c1)).setCell ⟨wa6.heap.size, 5, none⟩ (.slice a.a2 a.new.length a.c2)) (wD.heap.size) b := HPb.out.grown g1 (by simpa using Ne.symm HNE.out)
                        have XBt := Lib.hid hbs
                        replace HPb := Lib.hid hPb
                        have HPa := Lib.hid hPa
                        replace HOb := Lib.hid (HOb.out.below hB1)
                        replace HOa := Lib.hid (HOa.out.below hB1)
                        clear g1 hbs hB1 hPb hPa HGa
                        go_simp
                        refine hK.out _ _ (HKS.out _ XBt.out) (fun hHeld17 => ?_)
                        clear hK K hHeld16 m0 mf0 m1 mf1 m2 mf2 m3 mf3 m4 mf4 m5 mf5
                        try simp only [Act.put, List.setIfInBounds_toArray, List.set_cons_zero, List.set_cons_succ]
                        generalize hwn : ((((((ws.setCell ⟨wa6.heap.size, 0, none⟩ (.int .i64 a.kind)).setCell ⟨wa6.heap.size, 1, none⟩ (.string a.p)).setCell ⟨wa6.heap.size, 2, none⟩ (.string a.dst)).setCell ⟨wa6.heap.size, 3, none⟩ (.int .i64 a.at_)).setCell ⟨wa6.heap.size, 4, none⟩ (.slice a.a1 a.old.length a.c1)).setCell ⟨wa6.heap.size, 5, none⟩ (.slice a.a2 a.new.length a.c2)) = wt at *
                        clear hwn
                        refine wpAnyH_take (i := 18) (oi := { dst := some 17, op := _, type := _, pos := _, after := _, guard := _ }) (v := .int .i64 er) rfl (by kernel_rfl) (by kernel_rfl) (by kernel_rfl) (fun _ _ _ h => h) (Or.inl ⟨by rfl, fun w' hSw => ?_⟩) (by assumption) ?_
                        · ((try dsimp only at hSw); go_simp)
                        try simp only [Act.put, List.setIfInBounds_toArray, List.set_cons_zero, List.set_cons_succ]
                        refine wpAnyH_done (by kernel_rfl) ?_ _
                        refine NoPanic.normal ?_
                        go_wp2_with fail
                        go_meet
                        case rel => exact ⟨wD.heap.size, wa6.heap.size, b, a, er, rfl, rfl, rfl, ⟨HPb.out, HPa.out, HOb.out, HOa.out, HKP.out, HLb.out, HLa.out, XBt.out⟩⟩
                  · have hb : Below wD.heap.size wD (wD.alloc (.cells #[.int .i64 0, .string ⟨#[]⟩, .string ⟨#[]⟩, .int .i64 0, .slice none 0 0, .slice none 0 0] 33)) := (Below.refl _ _).alloc (Nat.le_refl _) _
                    have XA11 := Lib.hid (XB0.out.trans (hb.mono XB0.out.size))
                    have HGa : Hid (PrimAt (wD.alloc (.cells #[.int .i64 0, .string ⟨#[]⟩, .string ⟨#[]⟩, .int .i64 0, .slice none 0 0, .slice none 0 0] 33)) wD.heap.size ⟨0, ⟨#[]⟩, ⟨#[]⟩, 0, none, 0, [], none, 0, []⟩) := PrimAt.new_ wD ⟨0, ⟨#[]⟩, ⟨#[]⟩, 0, none, 0, [], none, 0, []⟩
                    have HLa : Hid (wr.heap.size ≤ wD.heap.size) := XB0.out.size
                    clear hb
                    go_simp
                    refine hK.out _ _ (HKS.out _ XA11.out) (fun hHeld15 => ?_)
                    clear hK K hHeld
                    try simp only [Act.put, List.setIfInBounds_toArray, List.set_cons_zero, List.set_cons_succ]
                    generalize hwn : (wD.alloc (.cells #[.int .i64 0, .string ⟨#[]⟩, .string ⟨#[]⟩, .int .i64 0, .slice none 0 0, .slice none 0 0] 33)) = wa11 at *
                    clear hwn
                    refine wpAnyH_ready (rs := [9, 14]) (by kernel_rfl) (by simp) ?_
                    refine AllReadyH.cons rfl (fun K hK => ?_) (AllReadyH.cons rfl (fun K hK => ?_) AllReadyH.nil)
                    · go_simp
                      go_at_call 26
                      refine (CP.out _ XA11.out).mono ?_
                      rintro e wc12 ⟨b, a, er, rfl, hp, hb⟩
                      have XC12 := Lib.hid (XA11.out.trans (hb.mono XA11.out.size))
                      have HOb := Lib.hid hp.out.1
                      have HOa := Lib.hid hp.out.2.1
                      have HKP := Lib.hid hp.out.2.2
                      replace HGa := Lib.hid (HGa.out.on hb)
                      clear hb hp
                      refine hK.out _ _ (HKS.out _ XC12.out) (fun hHeld9 => ?_)
                      clear hK K hHeld15
                      try simp only [Act.put, List.setIfInBounds_toArray, List.set_cons_zero, List.set_cons_succ]
                      refine wpAnyH_take (i := 10) (oi := { dst := some 131, op := _, type := _, pos := _, after := _, guard := _ }) (v := .tuple #[.agg #[.int .i64 b.kind, .string b.p, .string b.dst, .int .i64 b.at_, .slice b.a1 b.old.length b.c1, .slice b.a2 b.new.length b.c2], .agg #[.int .i64 a.kind, .string a.p, .string a.dst, .int .i64 a.at_, .slice a.a1 a.old.length a.c1, .slice a.a2 a.new.length a.c2], .int .i64 er]) rfl (by kernel_rfl) (by kernel_rfl) (by kernel_rfl) (fun _ _ _ h => h) (Or.inl ⟨by rfl, fun w' hSw => ?_⟩) (by assumption) ?_
                      · ((try dsimp only at hSw); go_simp)
                      try simp only [Act.put, List.setIfInBounds_toArray, List.set_cons_zero, List.set_cons_succ]
                      refine wpAnyH_take (i := 11) (oi := { dst := some 142, op := _, type := _, pos := _, after := _, guard := _ }) (v := .agg #[.int .i64 b.kind, .string b.p, .string b.dst, .int .i64 b.at_, .slice b.a1 b.old.length b.c1, .slice b.a2 b.new.length b.c2]) rfl (by kernel_rfl) (by kernel_rfl) (by kernel_rfl) (fun _ _ _ h => h) (Or.inl ⟨by rfl, fun w' hSw => ?_⟩) (by assumption) ?_
                      · ((try dsimp only at hSw); go_simp)
                      try simp only [Act.put, List.setIfInBounds_toArray, List.set_cons_zero, List.set_cons_succ]
                      refine wpAnyH_take (i := 12) (oi := { dst := some 143, op := _, type := _, pos := _, after := _, guard := _ }) (v := .agg #[.int .i64 a.kind, .string a.p, .string a.dst, .int .i64 a.at_, .slice a.a1 a.old.length a.c1, .slice a.a2 a.new.length a.c2]) rfl (by kernel_rfl) (by kernel_rfl) (by kernel_rfl) (fun _ _ _ h => h) (Or.inl ⟨by rfl, fun w' hSw => ?_⟩) (by assumption) ?_
                      · ((try dsimp only at hSw); go_simp)
                      try simp only [Act.put, List.setIfInBounds_toArray, List.set_cons_zero, List.set_cons_succ]
                      refine wpAnyH_take (i := 13) (oi := { dst := some 144, op := _, type := _, pos := _, after := _, guard := _ }) (v := .int .i64 er) rfl (by kernel_rfl) (by kernel_rfl) (by kernel_rfl) (fun _ _ _ h => h) (Or.inl ⟨by rfl, fun w' hSw => ?_⟩) (by assumption) ?_
                      · ((try dsimp only at hSw); go_simp)
                      try simp only [Act.put, List.setIfInBounds_toArray, List.set_cons_zero, List.set_cons_succ]
                      refine wpAnyH_ready (rs := [14]) (by kernel_rfl) (by simp) ?_
                      refine AllReadyH.cons rfl (fun K hK => ?_) AllReadyH.nil
                      · have HNE : Hid (wc12.heap.size ≠ wD.heap.size) := by show _ ≠ _; have h1 := HGa.out.lt; omega
                        have hb : Below wc12.heap.size wc12 (wc12.alloc (.cells #[.int .i64 0, .string ⟨#[]⟩, .string ⟨#[]⟩, .int .i64 0, .slice none 0 0, .slice none 0 0] 33)) := (Below.refl _ _).alloc (Nat.le_refl _) _
                        have XA13 := Lib.hid (XC12.out.trans (hb.mono XC12.out.size))
                        replace HGa := Lib.hid (HGa.out.on hb)
                        have hbB := hb.mono (Nat.le_trans HBW.out XC12.out.size)
                        replace HOb := Lib.hid (HOb.out.below hbB)
                        replace HOa := Lib.hid (HOa.out.below hbB)
                        clear hbB
                        have HGb : Hid (PrimAt (wc12.alloc (.cells #[.int .i64 0, .string ⟨#[]⟩, .string ⟨#[]⟩, .int .i64 0, .slice none 0 0, .slice none 0 0] 33)) wc12.heap.size ⟨0, ⟨#[]⟩, ⟨#[]⟩, 0, none, 0, [], none, 0, []⟩) := PrimAt.new_ wc12 ⟨0, ⟨#[]⟩, ⟨#[]⟩, 0, none, 0, [], none, 0, []⟩
                        have HLb : Hid (wr.heap.size ≤ wc12.heap.size) := XC12.out.size
                        clear hb
                        go_simp
                        refine hK.out _ _ (HKS.out _ XA13.out) (fun hHeld14 => ?_)
                        clear hK K hHeld9
                        try simp only [Act.put, List.setIfInBounds_toArray, List.set_cons_zero, List.set_cons_succ]
                        generalize hwn : (wc12.alloc (.cells #[.int .i64 0, .string ⟨#[]⟩, .string ⟨#[]⟩, .int .i64 0, .slice none 0 0, .slice none 0 0] 33)) = wa13 at *
                        clear hwn
                        refine wpAnyH_ready (rs := [16]) (by kernel_rfl) (by simp) ?_
                        refine AllReadyH.cons rfl (fun K hK => ?_) AllReadyH.nil
                        have m0 := HGb.out.c0
                        have mf0 := HGb.out.fz 0
                        have m1 := HGb.out.c1
                        have mf1 := HGb.out.fz 1
                        have m2 := HGb.out.c2
                        have mf2 := HGb.out.fz 2
                        have m3 := HGb.out.c3
                        have mf3 := HGb.out.fz 3
                        have m4 := HGb.out.c4
                        have mf4 := HGb.out.fz 4
                        have m5 := HGb.out.c5
                        have mf5 := HGb.out.fz 5
                        have g1 : wa13.grownBy ((((((wa13.setCell ⟨wc12.heap.size, 0, none⟩ (.int .i64 b.kind)).setCell ⟨wc12.heap.size, 1, none⟩ (.string b.p)).setCell ⟨wc12.heap.size, 2, none⟩ (.string b.dst)).setCell ⟨wc12.heap.size, 3, none⟩ (.int .i64 b.at_)).setCell ⟨wc12.heap.size, 4, none⟩ (.slice b.a1 b.old.length b.c1)).setCell ⟨wc12.heap.size, 5, none⟩ (.slice b.a2 b.new.length b.c2)) (some wc12.heap.size) := setPrim_grown wa13 wc12.heap.size b
                        have hbs : Below wr.heap.size wr ((((((wa13.setCell ⟨wc12.heap.size, 0, none⟩ (.int .i64 b.kind)).setCell ⟨wc12.heap.size, 1, none⟩ (.string b.p)).setCell ⟨wc12.heap.size, 2, none⟩ (.string b.dst)).setCell ⟨wc12.heap.size, 3, none⟩ (.int .i64 b.at_)).setCell ⟨wc12.heap.size, 4, none⟩ (.slice b.a1 b.old.length b.c1)).setCell ⟨wc12.heap.size, 5, none⟩ (.slice b.a2 b.new.length b.c2)) := below_prim b XA13.out HLb.out XA13.out.size
                        have hB1 : Below wr.heap.size wa13 ((((((wa13.setCell ⟨wc12.heap.size, 0, none⟩ (.int .i64 b.kind)).setCell ⟨wc12.heap.size, 1, none⟩ (.string b.p)).setCell ⟨wc12.heap.size, 2, none⟩ (.string b.dst)).setCell ⟨wc12.heap.size, 3, none⟩ (.int .i64 b.at_)).setCell ⟨wc12.heap.size, 4, none⟩ (.slice b.a1 b.old.length b.c1)).setCell ⟨wc12.heap.size, 5, none⟩ (.slice b.a2 b.new.length b.c2)) := below_prim b (Below.refl wr.heap.size wa13) (Nat.le_trans HBW.out HLb.out) (Nat.le_trans HBW.out XA13.out.size)
                        have hPb : PrimAt ((((((wa13.setCell ⟨wc12.heap.size, 0, none⟩ (.int .i64 b.kind)).setCell ⟨wc12.heap.size, 1, none⟩ (.string b.p)).setCell ⟨wc12.heap.size, 2, none⟩ (.string b.dst)).setCell ⟨wc12.heap.size, 3, none⟩ (.int .i64 b.at_)).setCell ⟨wc12.heap.size, 4, none⟩ (.slice b.a1 b.old.length b.c1)).setCell ⟨wc12.heap.size, 5, none⟩ (.slice b.a2 b.new.length b.c2)) (wc12.heap.size) b := setPrim_at HGb.out b
                        have hPa : PrimAt ((((((wa13.setCell ⟨wc12.heap.size, 0, none⟩ (.int .i64 b.kind)).setCell ⟨wc12.heap.size, 1, none⟩ (.string b.p)).setCell ⟨wc12.heap.size, 2, none⟩ (.string b.dst)).setCell ⟨wc12.heap.size, 3, none⟩ (.int .i64 b.at_)).setCell ⟨wc12.heap.size, 4, none⟩ (.slice b.a1 b.old.length b.c1)).setCell ⟨wc12.heap.size, 5, none⟩ (.slice b.a2 b.new.length b.c2)) (wD.heap.size) ⟨0, ⟨#[]⟩, ⟨#[]⟩, 0, none, 0, [], none, 0, []⟩ := HGa.out.grown g1 (by simpa using HNE.out)
                        have XBs := Lib.hid hbs
                        have HPb := Lib.hid hPb
                        replace HGa := Lib.hid hPa
                        replace HOb := Lib.hid (HOb.out.below hB1)
                        replace HOa := Lib.hid (HOa.out.below hB1)
                        clear g1 hbs hB1 hPb hPa HGb
                        go_simp
                        refine hK.out _ _ (HKS.out _ XBs.out) (fun hHeld16 => ?_)
                        clear hK K hHeld14 m0 mf0 m1 mf1 m2 mf2 m3 mf3 m4 mf4 m5 mf5
                        try simp only [Act.put, List.setIfInBounds_toArray, List.set_cons_zero, List.set_cons_succ]
                        generalize hwn : ((((((wa13.setCell ⟨wc12.heap.size, 0, none⟩ (.int .i64 b.kind)).setCell ⟨wc12.heap.size, 1, none⟩ (.string b.p)).setCell ⟨wc12.heap.size, 2, none⟩ (.string b.dst)).setCell ⟨wc12.heap.size, 3, none⟩ (.int .i64 b.at_)).setCell ⟨wc12.heap.size, 4, none⟩ (.slice b.a1 b.old.length b.c1)).setCell ⟨wc12.heap.size, 5, none⟩ (.slice b.a2 b.new.length b.c2)) = ws at *
                        clear hwn
                        refine wpAnyH_ready (rs := [17]) (by kernel_rfl) (by simp) ?_
                        refine AllReadyH.cons rfl (fun K hK => ?_) AllReadyH.nil
                        have m0 := HGa.out.c0
                        have mf0 := HGa.out.fz 0
                        have m1 := HGa.out.c1
                        have mf1 := HGa.out.fz 1
                        have m2 := HGa.out.c2
                        have mf2 := HGa.out.fz 2
                        have m3 := HGa.out.c3
                        have mf3 := HGa.out.fz 3
                        have m4 := HGa.out.c4
                        have mf4 := HGa.out.fz 4
                        have m5 := HGa.out.c5
                        have mf5 := HGa.out.fz 5
                        have g1 : ws.grownBy ((((((ws.setCell ⟨wD.heap.size, 0, none⟩ (.int .i64 a.kind)).setCell ⟨wD.heap.size, 1, none⟩ (.string a.p)).setCell ⟨wD.heap.size, 2, none⟩ (.string a.dst)).setCell ⟨wD.heap.size, 3, none⟩ (.int .i64 a.at_)).setCell ⟨wD.heap.size, 4, none⟩ (.slice a.a1 a.old.length a.c1)).setCell ⟨wD.heap.size, 5, none⟩ (.slice a.a2 a.new.length a.c2)) (some wD.heap.size) := setPrim_grown ws wD.heap.size a
                        have hbs : Below wr.heap.size wr ((((((ws.setCell ⟨wD.heap.size, 0, none⟩ (.int .i64 a.kind)).setCell ⟨wD.heap.size, 1, none⟩ (.string a.p)).setCell ⟨wD.heap.size, 2, none⟩ (.string a.dst)).setCell ⟨wD.heap.size, 3, none⟩ (.int .i64 a.at_)).setCell ⟨wD.heap.size, 4, none⟩ (.slice a.a1 a.old.length a.c1)).setCell ⟨wD.heap.size, 5, none⟩ (.slice a.a2 a.new.length a.c2)) := below_prim a XBs.out HLa.out XBs.out.size
                        have hB1 : Below wr.heap.size ws ((((((ws.setCell ⟨wD.heap.size, 0, none⟩ (.int .i64 a.kind)).setCell ⟨wD.heap.size, 1, none⟩ (.string a.p)).setCell ⟨wD.heap.size, 2, none⟩ (.string a.dst)).setCell ⟨wD.heap.size, 3, none⟩ (.int .i64 a.at_)).setCell ⟨wD.heap.size, 4, none⟩ (.slice a.a1 a.old.length a.c1)).setCell ⟨wD.heap.size, 5, none⟩ (.slice a.a2 a.new.length a.c2)) := below_prim a (Below.refl wr.heap.size ws) (Nat.le_trans HBW.out HLa.out) (Nat.le_trans HBW.out XBs.out.size)
                        have hPa : PrimAt ((((((ws.setCell ⟨wD.heap.size, 0, none⟩ (.int .i64 a.kind)).setCell ⟨wD.heap.size, 1, none⟩ (.string a.p)).setCell ⟨wD.heap.size, 2, none⟩ (.string a.dst)).setCell ⟨wD.heap.size, 3, none⟩ (.int .i64 a.at_)).setCell ⟨wD.heap.size, 4, none⟩ (.slice a.a1 a.old.length a.c1)).setCell ⟨wD.heap.size, 5, none⟩ (.slice a.a2 a.new.length a.c2)) (wD.heap.size) a := setPrim_at HGa.out a
                        have hPb : PrimAt ((((((ws.setCell ⟨wD.heap.size, 0, none⟩ (.int .i64 a.kind)).setCell ⟨wD.heap.size, 1, none⟩ (.string a.p)).setCell ⟨wD.heap.size, 2, none⟩ (.string a.dst)).setCell ⟨wD.heap.size, 3, none⟩ (.int .i64 a.at_)).setCell ⟨wD.heap.size, 4, none⟩ (.slice a.a1 a.old.length a.c1)).setCell ⟨wD.heap.size, 5, none⟩ (.slice a.a2 a.new.length a.c2)) (wc12.heap.size) b := HPb.out.grown g1 (by simpa using Ne.symm HNE.out)
                        have XBt := Lib.hid hbs
                        replace HPb := Lib.hid hPb
                        have HPa := Lib.hid hPa
                        replace HOb := Lib.hid (HOb.out.below hB1)
                        replace HOa := Lib.hid (HOa.out.below hB1)
                        clear g1 hbs hB1 hPb hPa HGa
                        go_simp
                        refine hK.out _ _ (HKS.out _ XBt.out) (fun hHeld17 => ?_)
                        clear hK K hHeld16 m0 mf0 m1 mf1 m2 mf2 m3 mf3 m4 mf4 m5 mf5
                        try simp only [Act.put, List.setIfInBounds_toArray, List.set_cons_zero, List.set_cons_succ]
                        generalize hwn : ((((((ws.setCell ⟨wD.heap.size, 0, none⟩ (.int .i64 a.kind)).setCell ⟨wD.heap.size, 1, none⟩ (.string a.p)).setCell ⟨wD.heap.size, 2, none⟩ (.string a.dst)).setCell ⟨wD.heap.size, 3, none⟩ (.int .i64 a.at_)).setCell ⟨wD.heap.size, 4, none⟩ (.slice a.a1 a.old.length a.c1)).setCell ⟨wD.heap.size, 5, none⟩ (.slice a.a2 a.new.length a.c2)) = wt at *
                        clear hwn
                        refine wpAnyH_take (i := 18) (oi := { dst := some 17, op := _, type := _, pos := _, after := _, guard := _ }) (v := .int .i64 er) rfl (by kernel_rfl) (by kernel_rfl) (by kernel_rfl) (fun _ _ _ h => h) (Or.inl ⟨by rfl, fun w' hSw => ?_⟩) (by assumption) ?_
                        · ((try dsimp only at hSw); go_simp)
                        try simp only [Act.put, List.setIfInBounds_toArray, List.set_cons_zero, List.set_cons_succ]
                        refine wpAnyH_done (by kernel_rfl) ?_ _
                        refine NoPanic.normal ?_
                        go_wp2_with fail
                        go_meet
                        case rel => exact ⟨wc12.heap.size, wD.heap.size, b, a, er, rfl, rfl, rfl, ⟨HPb.out, HPa.out, HOb.out, HOa.out, HKP.out, HLb.out, HLa.out, XBt.out⟩⟩
                    · have HNE : Hid (wa11.heap.size ≠ wD.heap.size) := by show _ ≠ _; have h1 := HGa.out.lt; omega
                      have hb : Below wa11.heap.size wa11 (wa11.alloc (.cells #[.int .i64 0, .string ⟨#[]⟩, .string ⟨#[]⟩, .int .i64 0, .slice none 0 0, .slice none 0 0] 33)) := (Below.refl _ _).alloc (Nat.le_refl _) _
                      have XA14 := Lib.hid (XA11.out.trans (hb.mono XA11.out.size))
                      replace HGa := Lib.hid (HGa.out.on hb)
                      have HGb : Hid (PrimAt (wa11.alloc (.cells #[.int .i64 0, .string ⟨#[]⟩, .string ⟨#[]⟩, .int .i64 0, .slice none 0 0, .slice none 0 0] 33)) wa11.heap.size ⟨0, ⟨#[]⟩, ⟨#[]⟩, 0, none, 0, [], none, 0, []⟩) := PrimAt.new_ wa11 ⟨0, ⟨#[]⟩, ⟨#[]⟩, 0, none, 0, [], none, 0, []⟩
                      have HLb : Hid (wr.heap.size ≤ wa11.heap.size) := XA11.out.size
                      clear hb
                      go_simp
                      refine hK.out _ _ (HKS.out _ XA14.out) (fun hHeld14 => ?_)
                      clear hK K hHeld15
                      try simp only [Act.put, List.setIfInBounds_toArray, List.set_cons_zero, List.set_cons_succ]
                      generalize hwn : (wa11.alloc (.cells #[.int .i64 0, .string ⟨#[]⟩, .string ⟨#[]⟩, .int .i64 0, .slice none 0 0, .slice none 0 0] 33)) = wa14 at *
                      clear hwn
                      refine wpAnyH_ready (rs := [9]) (by kernel_rfl) (by simp) ?_
                      refine AllReadyH.cons rfl (fun K hK => ?_) AllReadyH.nil
                      · go_simp
                        go_at_call 26
                        refine (CP.out _ XA14.out).mono ?_
                        rintro e wc15 ⟨b, a, er, rfl, hp, hb⟩
                        have XC15 := Lib.hid (XA14.out.trans (hb.mono XA14.out.size))
                        have HOb := Lib.hid hp.out.1
                        have HOa := Lib.hid hp.out.2.1
                        have HKP := Lib.hid hp.out.2.2
                        replace HGa := Lib.hid (HGa.out.on hb)
                        replace HGb := Lib.hid (HGb.out.on hb)
                        clear hb hp
                        refine hK.out _ _ (HKS.out _ XC15.out) (fun hHeld9 => ?_)
                        clear hK K hHeld14
                        try simp only [Act.put, List.setIfInBounds_toArray, List.set_cons_zero, List.set_cons_succ]
                        refine wpAnyH_take (i := 10) (oi := { dst := some 131, op := _, type := _, pos := _, after := _, guard := _ }) (v := .tuple #[.agg #[.int .i64 b.kind, .string b.p, .string b.dst, .int .i64 b.at_, .slice b.a1 b.old.length b.c1, .slice b.a2 b.new.length b.c2], .agg #[.int .i64 a.kind, .string a.p, .string a.dst, .int .i64 a.at_, .slice a.a1 a.old.length a.c1, .slice a.a2 a.new.length a.c2], .int .i64 er]) rfl (by kernel_rfl) (by kernel_rfl) (by kernel_rfl) (fun _ _ _ h => h) (Or.inl ⟨by rfl, fun w' hSw => ?_⟩) (by assumption) ?_
                        · ((try dsimp only at hSw); go_simp)
                        try simp only [Act.put, List.setIfInBounds_toArray, List.set_cons_zero, List.set_cons_succ]
                        refine wpAnyH_take (i := 11) (oi := { dst := some 142, op := _, type := _, pos := _, after := _, guard := _ }) (v := .agg #[.int .i64 b.kind, .string b.p, .string b.dst, .int .i64 b.at_, .slice b.a1 b.old.length b.c1, .slice b.a2 b.new.length b.c2]) rfl (by kernel_rfl) (by kernel_rfl) (by kernel_rfl) (fun _ _ _ h => h) (Or.inl ⟨by rfl, fun w' hSw => ?_⟩) (by assumption) ?_
                        · ((try dsimp only at hSw); go_simp)
                        try simp only [Act.put, List.setIfInBounds_toArray, List.set_cons_zero, List.set_cons_succ]
                        refine wpAnyH_take (i := 12) (oi := { dst := some 143, op := _, type := _, pos := _, after := _, guard := _ }) (v := .agg #[.int .i64 a.kind, .string a.p, .string a.dst, .int .i64 a.at_, .slice a.a1 a.old.length a.c1, .slice a.a2 a.new.length a.c2]) rfl (by kernel_rfl) (by kernel_rfl) (by kernel_rfl) (fun _ _ _ h => h) (Or.inl ⟨by rfl, fun w' hSw => ?_⟩) (by assumption) ?_
                        · ((try dsimp only at hSw); go_simp)
                        try simp only [Act.put, List.setIfInBounds_toArray, List.set_cons_zero, List.set_cons_succ]
                        refine wpAnyH_take (i := 13) (oi := { dst := some 144, op := _, type := _, pos := _, after := _, guard := _ }) (v := .int .i64 er) rfl (by kernel_rfl) (by kernel_rfl) (by kernel_rfl) (fun _ _ _ h => h) (Or.inl ⟨by rfl, fun w' hSw => ?_⟩) (by assumption) ?_
                        · ((try dsimp only at hSw); go_simp)
                        try simp only [Act.put, List.setIfInBounds_toArray, List.set_cons_zero, List.set_cons_succ]
                        refine wpAnyH_ready (rs := [16]) (by kernel_rfl) (by simp) ?_
                        refine AllReadyH.cons rfl (fun K hK => ?_) AllReadyH.nil
                        have m0 := HGb.out.c0
                        have mf0 := HGb.out.fz 0
                        have m1 := HGb.out.c1
                        have mf1 := HGb.out.fz 1
                        have m2 := HGb.out.c2
                        have mf2 := HGb.out.fz 2
                        have m3 := HGb.out.c3
                        have mf3 := HGb.out.fz 3
                        have m4 := HGb.out.c4
                        have mf4 := HGb.out.fz 4
                        have m5 := HGb.out.c5
                        have mf5 := HGb.out.fz 5
                        have g1 : wc15.grownBy ((((((wc15.setCell ⟨wa11.heap.size, 0, none⟩ (.int .i64 b.kind)).setCell ⟨wa11.heap.size, 1, none⟩ (.string b.p)).setCell ⟨wa11.heap.size, 2, none⟩ (.string b.dst)).setCell ⟨wa11.heap.size, 3, none⟩ (.int .i64 b.at_)).setCell ⟨wa11.heap.size, 4, none⟩ (.slice b.a1 b.old.length b.c1)).setCell ⟨wa11.heap.size, 5, none⟩ (.slice b.a2 b.new.length b.c2)) (some wa11.heap.size) := setPrim_grown wc15 wa11.heap.size b
                        have hbs : Below wr.heap.size wr ((((((wc15.setCell ⟨wa11.heap.size, 0, none⟩ (.int .i64 b.kind)).setCell ⟨wa11.heap.size, 1, none⟩ (.string b.p)).setCell ⟨wa11.heap.size, 2, none⟩ (.string b.dst)).setCell ⟨wa11.heap.size, 3, none⟩ (.int .i64 b.at_)).setCell ⟨wa11.heap.size, 4, none⟩ (.slice b.a1 b.old.length b.c1)).setCell ⟨wa11.heap.size, 5, none⟩ (.slice b.a2 b.new.length b.c2)) := below_prim b XC15.out HLb.out XC15.out.size
                        have hB1 : Below wr.heap.size wc15 ((((((wc15.setCell ⟨wa11.heap.size, 0, none⟩ (.int .i64 b.kind)).setCell ⟨wa11.heap.size, 1, none⟩ (.string b.p)).setCell ⟨wa11.heap.size, 2, none⟩ (.string b.dst)).setCell ⟨wa11.heap.size, 3, none⟩ (.int .i64 b.at_)).setCell ⟨wa11.heap.size, 4, none⟩ (.slice b.a1 b.old.length b.c1)).setCell ⟨wa11.heap.size, 5, none⟩ (.slice b.a2 b.new.length b.c2)) := below_prim b (Below.refl wr.heap.size wc15) (Nat.le_trans HBW.out HLb.out) (Nat.le_trans HBW.out XC15.out.size)
                        have hPb : PrimAt ((((((wc15.setCell ⟨wa11.heap.size, 0, none⟩ (.int .i64 b.kind)).setCell ⟨wa11.heap.size, 1, none⟩ (.string b.p)).setCell ⟨wa11.heap.size, 2, none⟩ (.string b.dst)).setCell ⟨wa11.heap.size, 3, none⟩ (.int .i64 b.at_)).setCell ⟨wa11.heap.size, 4, none⟩ (.slice b.a1 b.old.length b.c1)).setCell ⟨wa11.heap.size, 5, none⟩ (.slice b.a2 b.new.length b.c2)) (wa11.heap.size) b := setPrim_at HGb.out b
                        have hPa : PrimAt ((((((wc15.setCell ⟨wa11.heap.size, 0, none⟩ (.int .i64 b.kind)).setCell ⟨wa11.heap.size, 1, none⟩ (.string b.p)).setCell ⟨wa11.heap.size, 2, none⟩ (.string b.dst)).setCell ⟨wa11.heap.size, 3, none⟩ (.int .i64 b.at_)).setCell ⟨wa11.heap.size, 4, none⟩ (.slice b.a1 b.old.length b.c1)).setCell ⟨wa11.heap.size, 5, none⟩ (.slice b.a2 b.new.length b.c2)) (wD.heap.size) ⟨0, ⟨#[]⟩, ⟨#[]⟩, 0, none, 0, [], none, 0, []⟩ := HGa.out.grown g1 (by simpa using HNE.out)
                        have XBs := Lib.hid hbs
                        have HPb := Lib.hid hPb
                        replace HGa := Lib.hid hPa
                        replace HOb := Lib.hid (HOb.out.below hB1)
                        replace HOa := Lib.hid (HOa.out.below hB1)
                        clear g1 hbs hB1 hPb hPa HGb
                        go_simp
                        refine hK.out _ _ (HKS.out _ XBs.out) (fun hHeld16 => ?_)
                        clear hK K hHeld9 m0 mf0 m1 mf1 m2 mf2 m3 mf3 m4 mf4 m5 mf5
                        try simp only [Act.put, List.setIfInBounds_toArray, List.set_cons_zero, List.set_cons_succ]
                        generalize hwn : ((((((wc15.setCell ⟨wa11.heap.size, 0, none⟩ (.int .i64 b.kind)).setCell ⟨wa11.heap.size, 1, none⟩ (.string b.p)).setCell ⟨wa11.heap.size, 2, none⟩ (.string b.dst)).setCell ⟨wa11.heap.size, 3, none⟩ (.int .i64 b.at_)).setCell ⟨wa11.heap.size, 4, none⟩ (.slice b.a1 b.old.length b.c1)).setCell ⟨wa11.heap.size, 5, none⟩ (.slice b.a2 b.new.length b.c2)) = ws at *
                        clear hwn
                        refine wpAnyH_ready (rs := [17]) (by kernel_rfl) (by simp) ?_
                        refine AllReadyH.cons rfl (fun K hK => ?_) AllReadyH.nil
                        have m0 := HGa.out.c0
                        have mf0 := HGa.out.fz 0
                        have m1 := HGa.out.c1
                        have mf1 := HGa.out.fz 1
                        have m2 := HGa.out.c2
                        have mf2 := HGa.out.fz 2
                        have m3 := HGa.out.c3
                        have mf3 := HGa.out.fz 3
                        have m4 := HGa.out.c4
                        have mf4 := HGa.out.fz 4
                        have m5 := HGa.out.c5
                        have mf5 := HGa.out.fz 5
                        have g1 : ws.grownBy ((((((ws.setCell ⟨wD.heap.size, 0, none⟩ (.int .i64 a.kind)).setCell ⟨wD.heap.size, 1, none⟩ (.string a.p)).setCell ⟨wD.heap.size, 2, none⟩ (.string a.dst)).setCell ⟨wD.heap.size, 3, none⟩ (.int .i64 a.at_)).setCell ⟨wD.heap.size, 4, none⟩ (.slice a.a1 a.old.length a.c1)).setCell ⟨wD.heap.size, 5, none⟩ (.slice a.a2 a.new.length a.c2)) (some wD.heap.size) := setPrim_grown ws wD.heap.size a
                        have hbs : Below wr.heap.size wr ((((((ws.setCell ⟨wD.heap.size, 0, none⟩ (.int .i64 a.kind)).setCell ⟨wD.heap.size, 1, none⟩ (.string a.p)).setCell ⟨wD.heap.size, 2, none⟩ (.string a.dst)).setCell ⟨wD.heap.size, 3, none⟩ (.int .i64 a.at_)).setCell ⟨wD.heap.size, 4, none⟩ (.slice a.a1 a.old.length a.c1)).setCell ⟨wD.heap.size, 5, none⟩ (.slice a.a2 a.new.length a.c2)) := below_prim a XBs.out HLa.out XBs.out.size
                        have hB1 : Below wr.heap.size ws ((((((ws.setCell ⟨wD.heap.size, 0, none⟩ (.int .i64 a.kind)).setCell ⟨wD.heap.size, 1, none⟩ (.string a.p)).setCell ⟨wD.heap.size, 2, none⟩ (.string a.dst)).setCell ⟨wD.heap.size, 3, none⟩ (.int .i64 a.at_)).setCell ⟨wD.heap.size, 4, none⟩ (.slice a.a1 a.old.length a.c1)).setCell ⟨wD.heap.size, 5, none⟩ (.slice a.a2 a.new.length a.c2)) := below_prim a (Below.refl wr.heap.size ws) (Nat.le_trans HBW.out HLa.out) (Nat.le_trans HBW.out XBs.out.size)
                        have hPa : PrimAt ((((((ws.setCell ⟨wD.heap.size, 0, none⟩ (.int .i64 a.kind)).setCell ⟨wD.heap.size, 1, none⟩ (.string a.p)).setCell ⟨wD.heap.size, 2, none⟩ (.string a.dst)).setCell ⟨wD.heap.size, 3, none⟩ (.int .i64 a.at_)).setCell ⟨wD.heap.size, 4, none⟩ (.slice a.a1 a.old.length a.c1)).setCell ⟨wD.heap.size, 5, none⟩ (.slice a.a2 a.new.length a.c2)) (wD.heap.size) a := setPrim_at HGa.out a
                        have hPb : PrimAt ((((((ws.setCell ⟨wD.heap.size, 0, none⟩ (.int .i64 a.kind)).setCell ⟨wD.heap.size, 1, none⟩ (.string a.p)).setCell ⟨wD.heap.size, 2, none⟩ (.string a.dst)).setCell ⟨wD.heap.size, 3, none⟩ (.int .i64 a.at_)).setCell ⟨wD.heap.size, 4, none⟩ (.slice a.a1 a.old.length a.c1)).setCell ⟨wD.heap.size, 5, none⟩ (.slice a.a2 a.new.length a.c2)) (wa11.heap.size) b := HPb.out.grown g1 (by simpa using Ne.symm HNE.out)
                        have XBt := Lib.hid hbs
                        replace HPb := Lib.hid hPb
                        have HPa := Lib.hid hPa
                        replace HOb := Lib.hid (HOb.out.below hB1)
                        replace HOa := Lib.hid (HOa.out.below hB1)
                        clear g1 hbs hB1 hPb hPa HGa
                        go_simp
                        refine hK.out _ _ (HKS.out _ XBt.out) (fun hHeld17 => ?_)
                        clear hK K hHeld16 m0 mf0 m1 mf1 m2 mf2 m3 mf3 m4 mf4 m5 mf5
                        try simp only [Act.put, List.setIfInBounds_toArray, List.set_cons_zero, List.set_cons_succ]
                        generalize hwn : ((((((ws.setCell ⟨wD.heap.size, 0, none⟩ (.int .i64 a.kind)).setCell ⟨wD.heap.size, 1, none⟩ (.string a.p)).setCell ⟨wD.heap.size, 2, none⟩ (.string a.dst)).setCell ⟨wD.heap.size, 3, none⟩ (.int .i64 a.at_)).setCell ⟨wD.heap.size, 4, none⟩ (.slice a.a1 a.old.length a.c1)).setCell ⟨wD.heap.size, 5, none⟩ (.slice a.a2 a.new.length a.c2)) = wt at *
                        clear hwn
                        refine wpAnyH_take (i := 18) (oi := { dst := some 17, op := _, type := _, pos := _, after := _, guard := _ }) (v := .int .i64 er) rfl (by kernel_rfl) (by kernel_rfl) (by kernel_rfl) (fun _ _ _ h => h) (Or.inl ⟨by rfl, fun w' hSw => ?_⟩) (by assumption) ?_
                        · ((try dsimp only at hSw); go_simp)
                        try simp only [Act.put, List.setIfInBounds_toArray, List.set_cons_zero, List.set_cons_succ]
                        refine wpAnyH_done (by kernel_rfl) ?_ _
                        refine NoPanic.normal ?_
                        go_wp2_with fail
                        go_meet
                        case rel => exact ⟨wa11.heap.size, wD.heap.size, b, a, er, rfl, rfl, rfl, ⟨HPb.out, HPa.out, HOb.out, HOa.out, HKP.out, HLb.out, HLa.out, XBt.out⟩⟩
                case rest =>
                  -- @P9
                  obtain ⟨gb, ga, b, a, er, rfl, rfl, rfl, HQ⟩ := hcut
                  have hbq := HQ.out.2.2.2.2.2.2.2
                  replace HS5 := Lib.hid (HS5.out.on hbq)
                  replace H0 := Lib.hid (H0.out.on hbq)
                  replace H8 := Lib.hid (H8.out.on hbq)
                  replace HA := Lib.hid (HA.out.trans (hbq.mono HA.out.size))
                  replace HT := Lib.hid (Tabs.on HT.out hbq)
                  have HGb := Lib.hid HQ.out.1
                  have HGa := Lib.hid HQ.out.2.1
                  have HOb : Hid (b.Ok wc wc.heap.size) := HQ.out.2.2.1.more hbq.size
                  have HOa : Hid (a.Ok wc wc.heap.size) := HQ.out.2.2.2.1.more hbq.size
                  have HPP := Lib.hid HQ.out.2.2.2.2.1
                  have hlt2 := pair_lt HLX.out HLY.out HQ.out.2.2.2.2.1
                  clear HQ hbq CP HKS HDR HBW
                  have HW0 := Lib.hid (own_madep wc wc.heap.size (Nat.le_refl _))
                  have hal : Below wc.heap.size wc (wc.alloc (.cells #[] 33)) := (Below.refl _ _).alloc (Nat.le_refl _) _
                  have HAL := Lib.hid hal
                  have hrw := H0.out.on hal
                  have HRW := Lib.hid hrw
                  obtain ⟨M, hM⟩ : ∃ M, M = ([] : List Pm).length + l.length := ⟨_, rfl⟩
                  have HM := Lib.hid hM
                  clear hal hrw hM
                  go_wp2_with (at_builtin; refine wpList_append_prims rfl _ _ rfl wc.heap.size (.slice (some ⟨wc.heap.size, 0, none⟩) 0 0) [] rfl HW0.out l (some ⟨lb, lo, none⟩) l.length c0 rfl HRW.out.len HRW.out.room.1 HRW.out.at_ HAL.out.size (by simp only [List.length_nil]; omega) M HM.out ?_)
                  intro A11 c11 wp ho hg
                  have hb : Below wc.heap.size wc wp := below_appendp HAL.out HW0.out hg (Nat.le_refl _)
                  have ho' : OwnP wp wc.heap.size (.slice A11 M c11) l := ho
                  obtain rfl : M = l.length := by rw [HM.out]; simp
                  obtain ⟨g, rfl, hgB, _, m0, m1, m2, m3, m4, m5⟩ := ho'.get hk0
                  have mf0 := ho'.at0 (k * 6)
                  have mf1 := ho'.at0 (k * 6 + 1)
                  have mf2 := ho'.at0 (k * 6 + 2)
                  have mf3 := ho'.at0 (k * 6 + 3)
                  have mf4 := ho'.at0 (k * 6 + 4)
                  have mf5 := ho'.at0 (k * 6 + 5)
                  have bc0 := (HGb.out.on hb).c0
                  have bc1 := (HGb.out.on hb).c1
                  have bc2 := (HGb.out.on hb).c2
                  have bc3 := (HGb.out.on hb).c3
                  have bc4 := (HGb.out.on hb).c4
                  have bc5 := (HGb.out.on hb).c5
                  obtain ⟨p1, p2⟩ := ho'.put hk0 b
                  have hbq : Below wc.heap.size wc (putPrim wp g k b) := hb.grown p2 hb.size (fun q e => by cases e; exact hgB)
                  have HP1 := Lib.hid p1
                  have HBQ := Lib.hid hbq
                  clear ho ho' hg hb HW0 HAL HRW HM p1 p2 hbq
                  have hch : ((((((wp.setCell ⟨g, k * 6, none⟩ (.int .i64 b.kind)).setCell ⟨g, k * 6 + 1, none⟩ (.string b.p)).setCell ⟨g, k * 6 + 2, none⟩ (.string b.dst)).setCell ⟨g, k * 6 + 3, none⟩ (.int .i64 b.at_)).setCell ⟨g, k * 6 + 4, none⟩ (.slice b.a1 b.old.length b.c1)).setCell ⟨g, k * 6 + 5, none⟩ (.slice b.a2 b.new.length b.c2)) = putPrim wp g k b := rfl
                  go_upto_region 25 with (fail)
                  (try rw [hch])
                  clear hch m0 m1 m2 m3 m4 m5 mf0 mf1 mf2 mf3 mf4 mf5 bc0 bc1 bc2 bc3 bc4 bc5
                  generalize putPrim wp g k b = wq at *
                  have hk1 : k + 1 < (l.set k b).length := by rw [List.length_set]; exact hk
                  obtain ⟨g9, hg9, _, _, m0, m1, m2, m3, m4, m5⟩ := HP1.out.get hk1
                  obtain rfl : g = g9 := by simpa using hg9
                  have mf0 := HP1.out.at0 ((k + 1) * 6)
                  have mf1 := HP1.out.at0 ((k + 1) * 6 + 1)
                  have mf2 := HP1.out.at0 ((k + 1) * 6 + 2)
                  have mf3 := HP1.out.at0 ((k + 1) * 6 + 3)
                  have mf4 := HP1.out.at0 ((k + 1) * 6 + 4)
                  have mf5 := HP1.out.at0 ((k + 1) * 6 + 5)
                  have ac0 := (HGa.out.on HBQ.out).c0
                  have ac1 := (HGa.out.on HBQ.out).c1
                  have ac2 := (HGa.out.on HBQ.out).c2
                  have ac3 := (HGa.out.on HBQ.out).c3
                  have ac4 := (HGa.out.on HBQ.out).c4
                  have ac5 := (HGa.out.on HBQ.out).c5
                  obtain ⟨p1, p2⟩ := HP1.out.put hk1 a
                  have hbq : Below wc.heap.size wc (putPrim wq g (k + 1) a) := HBQ.out.grown p2 HBQ.out.size (fun q e => by cases e; exact hgB)
                  have HP2 := Lib.hid p1
                  have HB2 := Lib.hid hbq
                  clear hg9 p1 p2 hbq HP1 HBQ
                  have hch : ((((((wq.setCell ⟨g, (k + 1) * 6, none⟩ (.int .i64 a.kind)).setCell ⟨g, (k + 1) * 6 + 1, none⟩ (.string a.p)).setCell ⟨g, (k + 1) * 6 + 2, none⟩ (.string a.dst)).setCell ⟨g, (k + 1) * 6 + 3, none⟩ (.int .i64 a.at_)).setCell ⟨g, (k + 1) * 6 + 4, none⟩ (.slice a.a1 a.old.length a.c1)).setCell ⟨g, (k + 1) * 6 + 5, none⟩ (.slice a.a2 a.new.length a.c2)) = putPrim wq g (k + 1) a := rfl
                  go_upto_region 26 with (fail)
                  (try rw [hch])
                  clear hch m0 m1 m2 m3 m4 m5 mf0 mf1 mf2 mf3 mf4 mf5 ac0 ac1 ac2 ac3 ac4 ac5
                  generalize putPrim wq g (k + 1) a = wv at *
                  have hbv := HB2.out
                  have hwr : RowW wv (some ⟨g, 0, none⟩) l.length c11 ((l.set k b).set (k + 1) a) := RowB.of_own HP2.out (Nat.le_refl _) fun z hz => by
                    rcases List.mem_or_eq_of_mem_set hz with hz | rfl
                    · rcases List.mem_or_eq_of_mem_set hz with hz | rfl
                      · exact (H0.out.ok z hz).on hbv
                      · exact HOb.out.on hbv
                    · exact HOa.out.on hbv
                  have HWR := Lib.hid hwr
                  have hE := E8.out
                  rw [swap_i (by rw [pkeys_len]; exact hk)] at hE
                  unfold swapP at hE
                  rw [dif_pos (by rw [pkeys_len]; exact hk), HKX.out.1, HKX.out.2, HPP.out] at hE
                  simp only at hE
                  have hwl : ∀ z ∈ (l.set k b).set (k + 1) a, LtK z.key := fun z hz => by
                    rcases List.mem_or_eq_of_mem_set hz with hz | rfl
                    · rcases List.mem_or_eq_of_mem_set hz with hz | rfl
                      · exact L0.out z hz
                      · exact hlt2.1
                    · exact hlt2.2
                  replace HS5 := Lib.hid (HS5.out.on hbv)
                  replace H0 := Lib.hid (H0.out.on hbv)
                  replace H8 := Lib.hid (H8.out.on hbv)
                  replace HA := Lib.hid (HA.out.trans (hbv.mono HA.out.size))
                  replace HT := Lib.hid (Tabs.on HT.out hbv)
                  clear hbv hwr HB2 HP2 hgB hk1 HGb HGa HOb HOa HPP HKX E8
                  -- @P10
                  by_cases he : er = 0
                  · -- @P17
                    as_aux_lemma =>
                      subst he
                      rw [if_neg (by simp)] at hE
                      obtain ⟨rfl, hk8⟩ := Prod.mk.inj hE
                      rw [← put_two l k b a hk] at hk8
                      have HK8 := Lib.hid hk8.symm
                      have L8 := Lib.hid (ltk_keys hk8.symm (ltk_row hwl))
                      have N8 : Hid (l8.length ≤ 15) := by
                        have h9 := congrArg List.length hk8
                        rw [pkeys_len, pkeys_len, List.length_set, List.length_set] at h9
                        show _ ≤ _
                        omega
                      clear hE hk8 hwl hlt2 u1 u2 u3 u4 u5 u6 hk hk0 HLX HLY
                      go_wp2_with fail
                      refine (sawake_any _ HT.out).mono ?_
                      rintro e w8 ⟨rfl, hb⟩
                      replace HS5 := Lib.hid (HS5.out.on hb)
                      replace H0 := Lib.hid (H0.out.on hb)
                      replace H8 := Lib.hid (H8.out.on hb)
                      replace HWR := Lib.hid (HWR.out.on hb)
                      replace HA := Lib.hid (HA.out.trans (hb.mono HA.out.size))
                      replace HT := Lib.hid (Tabs.on HT.out hb)
                      clear hb
                      go_wp2_with fail
                      refine (refsame_w _ _ l8 _ _ _ _ _ _ H8.out HWR.out HK8.out L8.out (Nat.le_trans N8.out (by decide))).mono ?_
                      rintro e w9 ⟨rfl, hb⟩
                      replace HS5 := Lib.hid (HS5.out.on hb)
                      replace H0 := Lib.hid (H0.out.on hb)
                      replace HA := Lib.hid (HA.out.trans (hb.mono HA.out.size))
                      replace HT := Lib.hid (Tabs.on HT.out hb)
                      clear hb H8 HWR HK8 L8 N8
                      -- @P11w10
                      go_wp2_with fail
                      -- @P18w10
                      refine (seqtouched_any _ l _ c0 _ H0.out L0.out (by omega) HT.out).mono ?_
                      rintro e w10 ⟨A9, c9, rfl, _, hs9, hb⟩
                      replace HS5 := Lib.hid (HS5.out.on hb)
                      replace H0 := Lib.hid (H0.out.on hb)
                      replace HA := Lib.hid (HA.out.trans (hb.mono HA.out.size))
                      replace HT := Lib.hid (Tabs.on HT.out hb)
                      have HS9 := Lib.hid hs9
                      clear hs9 hb
                      -- @P12w10
                      go_wp2_with fail
                      refine (refset_l A5 _ n5 c5 _ HN5.out HS5.out (Nat.le_trans HFL.out (by decide))).mono ?_
                      rintro e wt ⟨A10, c10, rfl, _, hs10, hb⟩
                      replace HS9 := Lib.hid (HS9.out.on hb)
                      replace HA := Lib.hid (HA.out.trans (hb.mono HA.out.size))
                      replace HT := Lib.hid (Tabs.on HT.out hb)
                      have CS := Lib.hid (refsame_l A9 A10 _ c9 c10 _ HS9.out hs10 (Nat.le_trans HSL.out (by decide)))
                      clear hs10 hb HS9 HS5 H0
                      generalize setS ((pkeys l).flatMap touchesR) = zs at *
                      -- @P13
                      go_wp2_with fail
                      -- @P14
                      refine CS.out.mono ?_
                      rintro e wz ⟨rfl, hb⟩
                      have HB := Lib.hid (HA.out.trans (hb.mono HA.out.size))
                      clear hb CS
                      go_wp2
                      go_ret
                      exact ⟨rfl, HB.out⟩
                  · -- @P16
                    as_aux_lemma =>
                      rw [if_pos he] at hE
                      obtain ⟨rfl, hk8⟩ := Prod.mk.inj hE
                      have hl8 : l8 = [] := by
                        have h7 := congrArg List.length hk8
                        rw [pkeys_len] at h7
                        exact List.length_eq_zero_iff.1 h7.symm
                      subst hl8
                      obtain rfl : n8 = 0 := H8.out.len
                      have ke : (er == 0) = false := by simpa using he
                      have ke2 : (er != 0) = true := by simpa using he
                      clear hE hk8 hwl hlt2 H8 HWR he u1 u2 u3 u4 u5 u6 hk hk0 HLX HLY
                      go_wp2_with fail
                      refine (sawake_any _ HT.out).mono ?_
                      rintro e w8 ⟨rfl, hb⟩
                      replace HS5 := Lib.hid (HS5.out.on hb)
                      replace H0 := Lib.hid (H0.out.on hb)
                      replace HA := Lib.hid (HA.out.trans (hb.mono HA.out.size))
                      replace HT := Lib.hid (Tabs.on HT.out hb)
                      clear hb
                      -- @P11w9
                      go_wp2_with fail
                      -- @P18w9
                      refine (seqtouched_any _ l _ c0 _ H0.out L0.out (by omega) HT.out).mono ?_
                      rintro e w9 ⟨A9, c9, rfl, _, hs9, hb⟩
                      replace HS5 := Lib.hid (HS5.out.on hb)
                      replace H0 := Lib.hid (H0.out.on hb)
                      replace HA := Lib.hid (HA.out.trans (hb.mono HA.out.size))
                      replace HT := Lib.hid (Tabs.on HT.out hb)
                      have HS9 := Lib.hid hs9
                      clear hs9 hb
                      -- @P12w9
                      go_wp2_with fail
                      refine (refset_l A5 _ n5 c5 _ HN5.out HS5.out (Nat.le_trans HFL.out (by decide))).mono ?_
                      rintro e wt ⟨A10, c10, rfl, _, hs10, hb⟩
                      replace HS9 := Lib.hid (HS9.out.on hb)
                      replace HA := Lib.hid (HA.out.trans (hb.mono HA.out.size))
                      replace HT := Lib.hid (Tabs.on HT.out hb)
                      have CS := Lib.hid (refsame_l A9 A10 _ c9 c10 _ HS9.out hs10 (Nat.le_trans HSL.out (by decide)))
                      clear hs10 hb HS9 HS5 H0
                      generalize setS ((pkeys l).flatMap touchesR) = zs at *
                      -- @P13
                      go_wp2_with fail
                      -- @P14
                      refine CS.out.mono ?_
                      rintro e wz ⟨rfl, hb⟩
                      have HB := Lib.hid (HA.out.trans (hb.mono HA.out.size))
                      clear hb CS
                      go_wp2
                      go_ret
                      exact ⟨rfl, HB.out⟩
end Go.Proofs.YtalabahjfmcnbaaGreatDoor
