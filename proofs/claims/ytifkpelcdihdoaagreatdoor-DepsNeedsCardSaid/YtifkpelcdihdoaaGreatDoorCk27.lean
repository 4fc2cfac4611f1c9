/- Package patch: noName, hung, Check. Package deps: Check and Beside of the statements' two patches. -/
import Derived.Test.YtifkpelcdihdoaaGreatDoorProg
import Derived.WalkKit
import Derived.WalkSpells
import Derived.Handy
import Derived.Lib.Hide
import Derived.Shelf.Strings.BuilderK
import Derived.BigQuiet
import Derived.Deep.QuietTactic
import Derived.Lib.AtoiAllCases
import Derived.Lib.ItoaMem
import Derived.Test.YtifkpelcdihdoaaGreatDoorShelf
import Derived.Deep.RegionHeld3
import Derived.Deep.CutRange
import Derived.Lib.AppendIntMem
import Derived.BigRegion
import Derived.Deep.RegionWith
import Derived.Lib.QuietBelow
import Derived.Deep.MidRow
import Derived.Test.YtifkpelcdihdoaaGreatDoorCk21
import Derived.Test.YtifkpelcdihdoaaGreatDoorCk26
namespace Go.Proofs.YtifkpelcdihdoaaGreatDoor
open Go.RowKit
set_option linter.unusedVariables false

theorem nname_any (s : ByteArray) (w : World) (hs : s.size ≤ 9223372036854775807) (r : Bool) (hr : rightB s = r) :
    Calls Tryz.prog 65 #[.string s] w fun e w' => e = .returned (.bool (!r)) ∧ Below w.heap.size w w' := by
  have C := Lib.hid (right_any s w hs)
  rw [hr] at C
  go_enter Tryz.func65, Tryz.ntmps65
  go_wp2_with fail
  refine C.out.mono ?_
  rintro e w1 ⟨rfl, hb⟩
  go_wp2
  go_ret
  exact ⟨rfl, hb⟩
theorem pnames_no {ls : List (List UInt8)} {k : Nat} (hk : k < ls.length) (h : nameK ls[k] = false) : ls.all nameK = false := by
  rw [List.all_eq_false]
  exact ⟨ls[k], List.getElem_mem _, by rw [h]; exact Bool.false_ne_true⟩
theorem pnames_yes {ls : List (List UInt8)} (h : ∀ k (hk : k < ls.length), nameK ls[k] = true) : ls.all nameK = true := by
  rw [List.all_eq_true]
  intro x hx
  obtain ⟨k, hk, rfl⟩ := List.getElem_of_mem hx
  exact h k hk
set_option maxHeartbeats 1000000 in
set_option maxRecDepth 100000 in
theorem nindex_any (A : Option Addr) (ls : List (List UInt8)) (cap : Nat) (w : World) (hs : Strs w w.heap.size A (toBs ls)) (hn : ls.length ≤ 1000000) (hl : ∀ x ∈ ls, x.length ≤ 9223372036854775807) :
    Calls Tryz.prog 52 #[.slice A ls.length cap, .func (.func 65) #[] #[]] w fun e w' => ∃ r : Int, e = .returned (.int .i64 r) ∧ decide (0 ≤ r) = !(ls.all nameK) ∧ Below w.heap.size w w' := by
  have HS := Lib.hid hs
  have HL := Lib.hid hl
  clear hs hl
  go_enter Tryz.func52, Tryz.ntmps52
  go_wp2
  go_loopw [8] (fun i wr => ∃ k : Nat, k ≤ ls.length ∧ i = .int .i64 (k : Int) ∧ Hid (∀ j (hj : j < ls.length), j < k → nameK ls[j] = true) ∧ Below w.heap.size w wr) (fun i _ => ls.length - (intOf i).toNat)
  case atStart => exact ⟨0, Nat.zero_le _, rfl, fun j _ h => absurd h (by omega), Below.refl _ _⟩
  case round =>
    obtain ⟨k, hk, rfl, hall, hb⟩ := hrel
    by_cases hlt : k < ls.length
    · obtain ⟨g, off, rfl, hg, hc⟩ := (HS.out.on hb).at_ (k := k) (by rw [toBs_len]; exact hlt)
      have e1 : (toBs ls)[k]'(by rw [toBs_len]; exact hlt) = toB ls[k] := by simp [toBs]
      rw [e1] at hc
      have hz : (toB ls[k]).size ≤ 9223372036854775807 := by
        have := HL.out ls[k] (List.getElem_mem _)
        simpa [toB, ByteArray.size] using this
      cases hd : rightB (toB ls[k]) with
      | false =>
        have C := Lib.hid (nname_any (toB ls[k]) wr hz false hd)
        have hfin : Hid (ls.all nameK = false) := pnames_no hlt hd
        have HB := Lib.hid hb
        clear hall hd e1 hz hb
        generalize toB ls[k] = z at *
        go_wp2_with fail
        refine C.out.mono ?_
        rintro e w1 ⟨rfl, hb1⟩
        have HB2 := Lib.hid (HB.out.trans (hb1.mono HB.out.size))
        clear hb1
        go_wp2
        go_ret
        exact ⟨k, rfl, by rw [hfin.out]; simp, HB2.out⟩
      | true =>
        have C := Lib.hid (nname_any (toB ls[k]) wr hz true hd)
        have hyes : Hid (∀ j (hj : j < ls.length), j < k + 1 → nameK ls[j] = true) := by
          intro j hj hjk
          by_cases hjk2 : j = k
          · subst hjk2; exact hd
          · exact hall.out j hj (by omega)
        have HB := Lib.hid hb
        clear hall hd e1 hz hb
        generalize toB ls[k] = z at *
        go_wp2_with fail
        refine C.out.mono ?_
        rintro e w1 ⟨rfl, hb1⟩
        have HB2 := Lib.hid (HB.out.trans (hb1.mono HB.out.size))
        clear hb1
        go_wp2
        go_roundw
        case rel => exact ⟨k + 1, by omega, by go_num, hyes, HB2.out⟩
        case measure => simp [intOf]; omega
    · obtain rfl : k = ls.length := by omega
      have hfin : Hid (ls.all nameK = true) := pnames_yes fun j hj => hall.out j hj hj
      clear hall
      go_wp2
      go_ret
      exact ⟨-1, rfl, by rw [hfin.out]; rfl, hb⟩
theorem ncontains_any (A : Option Addr) (ls : List (List UInt8)) (cap : Nat) (w : World) (hs : Strs w w.heap.size A (toBs ls)) (hn : ls.length ≤ 1000000) (hl : ∀ x ∈ ls, x.length ≤ 9223372036854775807) (r : Bool) (hr : ls.all nameK = r) :
    Calls Tryz.prog 30 #[.slice A ls.length cap, .func (.func 65) #[] #[]] w fun e w' => e = .returned (.bool (!r)) ∧ Below w.heap.size w w' := by
  have C := Lib.hid (nindex_any A ls cap w hs hn hl)
  rw [hr] at C
  clear hs hl hr
  go_enter Tryz.func30, Tryz.ntmps30
  go_wp2_with fail
  refine C.out.mono ?_
  rintro e w1 ⟨r, rfl, hr, hb⟩
  have HR := Lib.hid hr
  clear hr C
  go_wp2
  go_ret
  rw [← HR.out]
  exact ⟨rfl, hb⟩
theorem pset_any (A : Option Addr) (ls : List (List UInt8)) (c : Nat) (w : World) (hs : Strs w w.heap.size A (toBs ls)) (hn : ls.length ≤ 1000000) :
    Calls Tryz.prog 50 #[.slice A ls.length c] w fun e w' => ∃ A2 c2, e = .returned (.slice A2 (setS ls).length c2) ∧ Strs w' w'.heap.size A2 (toBs (setS ls)) ∧ Below w.heap.size w w' := by
  have h := set_any A (toBs ls) c w hs (by rw [toBs_len]; exact hn)
  rw [toBs_len, lists_toBs] at h
  refine h.mono ?_
  rintro e w' ⟨v, rfl, ho, hb⟩
  obtain ⟨A2, c2, rfl, hs2, _, _⟩ := ho.strs
  exact ⟨A2, c2, rfl, hs2, hb⟩
theorem pequal_any (A A2 : Option Addr) (la lc : List (List UInt8)) (cap cap2 : Nat) (w : World) (d : Bool) (hd : decide (la = lc) = d) (hs : Strs w w.heap.size A (toBs la)) (ht : Strs w w.heap.size A2 (toBs lc)) (hn : la.length ≤ 1000000) (hn2 : lc.length ≤ 1000000) :
    Calls Tryz.prog 83 #[.slice A la.length cap, .slice A2 lc.length cap2] w fun e w' => e = .returned (.bool d) ∧ Below w.heap.size w w' := by
  have h := equal_any A A2 (toBs la) (toBs lc) cap cap2 w hs ht (by rw [toBs_len]; exact hn) (by rw [toBs_len]; exact hn2)
  rw [toBs_len, toBs_len, toBs_eq, hd] at h
  refine h.mono ?_
  rintro e w' ⟨rfl, q, rfl⟩
  exact ⟨rfl, below_drewN (Below.refl _ _) q⟩
theorem phas_any (A : Option Addr) (ls : List (List UInt8)) (c : Nat) (s : ByteArray) (w : World) (hs : Strs w w.heap.size A (toBs ls)) (hn : ls.length ≤ 1000000) (r : Bool) (hr : decide (s.data.toList ∈ ls) = r) :
    Calls Tryz.prog 46 #[.slice A ls.length c, .string s] w fun e w' => e = .returned (.bool r) ∧ Below w.heap.size w w' := by
  have h := has_any A (toBs ls) c s w hs (by rw [toBs_len]; exact hn)
  rw [toBs_len, lists_toBs, hr] at h
  refine h.mono ?_
  rintro e w' ⟨rfl, rfl⟩
  exact ⟨rfl, Below.refl _ _⟩
set_option maxHeartbeats 4000000 in
set_option maxRecDepth 100000 in
theorem phung_any (x : Ptm) (w : World) (ox : x.Ok w w.heap.size) (sx : x.Ck) (r : Bool) (hr : hungP x.key = r) :
    Calls Tryz.prog 66 #[.agg #[.string x.name, .slice x.a1 x.deps.length x.c1, .slice x.a2 x.ops.length x.c2]] w fun e w' => e = .returned (.bool r) ∧ Below w.heap.size w w' := by
  obtain ⟨hb, hx⟩ := pat_box w x
  have HP := Lib.hid hx
  have HB := Lib.hid hb
  have OX := Lib.hid (ox.on hb)
  have SX := Lib.hid sx
  have HR : Hid ((decide (x.deps = setS x.deps) && !decide (x.name.data.toList ∈ x.deps)) = r) := hr
  clear hb hx ox sx hr
  go_enter Tryz.func66, Tryz.ntmps66
  go_upto_region 1 with (fail)
  generalize (w.alloc (.cells #[.string x.name, .slice x.a1 x.deps.length x.c1, .slice x.a2 x.ops.length x.c2] 35)) = wb at *
  have p0 := HP.out.c0
  have p1 := HP.out.c1
  have p2 := HP.out.c2
  -- @P1
  have HDR : Hid (Below wb.heap.size wb wb.drew) := (Below.refl _ _).drew
  refine wp_region_noPanic ?_
  refine wp_region_held_drew (S := fun W => Below wb.heap.size wb W) (by kernel_rfl) HDR.out (fun hHeld => ?_)
  refine wpAnyH_take (i := 0) (oi := { dst := some 3, op := _, type := _, pos := _, after := _, guard := _ }) (v := .pointer (some ⟨w.heap.size, 1, none⟩)) rfl (by kernel_rfl) (by kernel_rfl) (by kernel_rfl) (fun _ _ _ h => h) (Or.inl ⟨by rfl, fun w' hSw => ?_⟩) (by assumption) ?_
  · ((try dsimp only at hSw); go_simp)
  try simp only [Act.put, List.setIfInBounds_toArray, List.set_cons_zero, List.set_cons_succ]
  refine wpAnyH_take (i := 1) (oi := { dst := some 4, op := _, type := _, pos := _, after := _, guard := _ }) (v := .slice x.a1 x.deps.length x.c1) rfl (by kernel_rfl) (by kernel_rfl) (by kernel_rfl) (fun _ _ _ h => h) (Or.inl ⟨by rfl, fun w' hSw => ?_⟩) (by assumption) ?_
  · (have q0 := (hSw.cell (rec_cell_lt p0)).trans p0; have q1 := (hSw.cell (rec_cell_lt p1)).trans p1; have q2 := (hSw.cell (rec_cell_lt p2)).trans p2; go_simp)
  try simp only [Act.put, List.setIfInBounds_toArray, List.set_cons_zero, List.set_cons_succ]
  refine wpAnyH_take (i := 2) (oi := { dst := some 5, op := _, type := _, pos := _, after := _, guard := _ }) (v := .pointer (some ⟨w.heap.size, 1, none⟩)) rfl (by kernel_rfl) (by kernel_rfl) (by kernel_rfl) (fun _ _ _ h => h) (Or.inl ⟨by rfl, fun w' hSw => ?_⟩) (by assumption) ?_
  · ((try dsimp only at hSw); go_simp)
  try simp only [Act.put, List.setIfInBounds_toArray, List.set_cons_zero, List.set_cons_succ]
  refine wpAnyH_take (i := 3) (oi := { dst := some 6, op := _, type := _, pos := _, after := _, guard := _ }) (v := .slice x.a1 x.deps.length x.c1) rfl (by kernel_rfl) (by kernel_rfl) (by kernel_rfl) (fun _ _ _ h => h) (Or.inl ⟨by rfl, fun w' hSw => ?_⟩) (by assumption) ?_
  · (have q0 := (hSw.cell (rec_cell_lt p0)).trans p0; have q1 := (hSw.cell (rec_cell_lt p1)).trans p1; have q2 := (hSw.cell (rec_cell_lt p2)).trans p2; go_simp)
  try simp only [Act.put, List.setIfInBounds_toArray, List.set_cons_zero, List.set_cons_succ]
  have XB0 := Lib.hid HDR.out
  generalize hwD : wb.drew = wD at *
  clear hwD HDR
  refine wpAnyH_ready (rs := [4]) (by kernel_rfl) (by simp) ?_
  refine AllReadyH.cons rfl (fun K hK => ?_) AllReadyH.nil
  go_simp
  go_at_call 50
  refine (pset_any x.a1 x.deps x.c1 _ (OX.out.deps.on XB0.out) SX.out.few).mono ?_
  rintro e wc ⟨A2, c2, rfl, hs2, hb⟩
  have XB1 := Lib.hid (XB0.out.trans (hb.mono XB0.out.size))
  have HS2 := Lib.hid hs2
  clear hs2 hb
  refine hK.out _ _ (XB1.out) (fun hHeld4 => ?_)
  clear hK K hHeld XB0
  try simp only [Act.put, List.setIfInBounds_toArray, List.set_cons_zero, List.set_cons_succ]
  obtain ⟨q, hq⟩ : ∃ q, decide (x.deps = setS x.deps) = q := ⟨_, rfl⟩
  have HQ := Lib.hid hq
  rw [hq] at HR
  clear hq
  refine wpAnyH_ready (rs := [5]) (by kernel_rfl) (by simp) ?_
  refine AllReadyH.cons rfl (fun K hK => ?_) AllReadyH.nil
  go_simp
  go_at_call 83
  refine (pequal_any x.a1 A2 x.deps (setS x.deps) x.c1 c2 _ q HQ.out (OX.out.deps.on XB1.out) HS2.out SX.out.few (Nat.le_trans (setS_len _) SX.out.few)).mono ?_
  rintro e wd ⟨rfl, hb⟩
  have XB2 := Lib.hid (XB1.out.trans (hb.mono XB1.out.size))
  clear hb
  refine hK.out _ _ (XB2.out) (fun hHeld5 => ?_)
  clear hK K hHeld4 XB1 HS2
  try simp only [Act.put, List.setIfInBounds_toArray, List.set_cons_zero, List.set_cons_succ]
  refine wpAnyH_take (i := 6) (oi := { dst := some 9, op := _, type := _, pos := _, after := _, guard := _ }) (v := .bool q) rfl (by kernel_rfl) (by kernel_rfl) (by kernel_rfl) (fun _ _ _ h => h) (Or.inl ⟨by rfl, fun w' hSw => ?_⟩) (by assumption) ?_
  · ((try dsimp only at hSw); go_simp)
  try simp only [Act.put, List.setIfInBounds_toArray, List.set_cons_zero, List.set_cons_succ]
  cases q
  · have HF : Hid (r = false) := by show _ = _; rw [← HR.out, Bool.false_and]
    refine wpAnyH_take (i := 7) (oi := { dst := some 10, op := _, type := _, pos := _, after := _, guard := _ }) (v := undef) rfl (by kernel_rfl) (by kernel_rfl) (by kernel_rfl) (fun _ _ _ h => h) (Or.inr ⟨by rfl, rfl⟩) (by assumption) ?_
    try simp only [Act.put, List.setIfInBounds_toArray, List.set_cons_zero, List.set_cons_succ]
    refine wpAnyH_take (i := 8) (oi := { dst := some 11, op := _, type := _, pos := _, after := _, guard := _ }) (v := undef) rfl (by kernel_rfl) (by kernel_rfl) (by kernel_rfl) (fun _ _ _ h => h) (Or.inr ⟨by rfl, rfl⟩) (by assumption) ?_
    try simp only [Act.put, List.setIfInBounds_toArray, List.set_cons_zero, List.set_cons_succ]
    refine wpAnyH_take (i := 9) (oi := { dst := some 12, op := _, type := _, pos := _, after := _, guard := _ }) (v := undef) rfl (by kernel_rfl) (by kernel_rfl) (by kernel_rfl) (fun _ _ _ h => h) (Or.inr ⟨by rfl, rfl⟩) (by assumption) ?_
    try simp only [Act.put, List.setIfInBounds_toArray, List.set_cons_zero, List.set_cons_succ]
    refine wpAnyH_take (i := 10) (oi := { dst := some 13, op := _, type := _, pos := _, after := _, guard := _ }) (v := undef) rfl (by kernel_rfl) (by kernel_rfl) (by kernel_rfl) (fun _ _ _ h => h) (Or.inr ⟨by rfl, rfl⟩) (by assumption) ?_
    try simp only [Act.put, List.setIfInBounds_toArray, List.set_cons_zero, List.set_cons_succ]
    refine wpAnyH_take (i := 11) (oi := { dst := some 14, op := _, type := _, pos := _, after := _, guard := _ }) (v := undef) rfl (by kernel_rfl) (by kernel_rfl) (by kernel_rfl) (fun _ _ _ h => h) (Or.inr ⟨by rfl, rfl⟩) (by assumption) ?_
    try simp only [Act.put, List.setIfInBounds_toArray, List.set_cons_zero, List.set_cons_succ]
    refine wpAnyH_take (i := 12) (oi := { dst := some 15, op := _, type := _, pos := _, after := _, guard := _ }) (v := undef) rfl (by kernel_rfl) (by kernel_rfl) (by kernel_rfl) (fun _ _ _ h => h) (Or.inr ⟨by rfl, rfl⟩) (by assumption) ?_
    try simp only [Act.put, List.setIfInBounds_toArray, List.set_cons_zero, List.set_cons_succ]
    refine wpAnyH_take (i := 13) (oi := { dst := some 16, op := _, type := _, pos := _, after := _, guard := _ }) (v := .bool false) rfl (by kernel_rfl) (by kernel_rfl) (by kernel_rfl) (fun _ _ _ h => h) (Or.inl ⟨by rfl, fun w' hSw => ?_⟩) (by assumption) ?_
    · ((try dsimp only at hSw); go_simp)
    try simp only [Act.put, List.setIfInBounds_toArray, List.set_cons_zero, List.set_cons_succ]
    refine wpAnyH_take (i := 14) (oi := { dst := some 2, op := _, type := _, pos := _, after := _, guard := _ }) (v := .bool false) rfl (by kernel_rfl) (by kernel_rfl) (by kernel_rfl) (fun _ _ _ h => h) (Or.inl ⟨by rfl, fun w' hSw => ?_⟩) (by assumption) ?_
    · ((try dsimp only at hSw); go_simp)
    try simp only [Act.put, List.setIfInBounds_toArray, List.set_cons_zero, List.set_cons_succ]
    refine wpAnyH_done (by kernel_rfl) ?_ _
    refine NoPanic.normal ?_
    go_wp2
    go_ret
    exact ⟨by rw [HF.out]; rfl, HB.out.trans (XB2.out.mono HB.out.size)⟩
  · refine wpAnyH_take (i := 7) (oi := { dst := some 10, op := _, type := _, pos := _, after := _, guard := _ }) (v := .pointer (some ⟨w.heap.size, 1, none⟩)) rfl (by kernel_rfl) (by kernel_rfl) (by kernel_rfl) (fun _ _ _ h => h) (Or.inl ⟨by rfl, fun w' hSw => ?_⟩) (by assumption) ?_
    · ((try dsimp only at hSw); go_simp)
    try simp only [Act.put, List.setIfInBounds_toArray, List.set_cons_zero, List.set_cons_succ]
    refine wpAnyH_take (i := 8) (oi := { dst := some 11, op := _, type := _, pos := _, after := _, guard := _ }) (v := .slice x.a1 x.deps.length x.c1) rfl (by kernel_rfl) (by kernel_rfl) (by kernel_rfl) (fun _ _ _ h => h) (Or.inl ⟨by rfl, fun w' hSw => ?_⟩) (by assumption) ?_
    · (have q0 := (hSw.cell (rec_cell_lt p0)).trans p0; have q1 := (hSw.cell (rec_cell_lt p1)).trans p1; have q2 := (hSw.cell (rec_cell_lt p2)).trans p2; go_simp)
    try simp only [Act.put, List.setIfInBounds_toArray, List.set_cons_zero, List.set_cons_succ]
    refine wpAnyH_take (i := 9) (oi := { dst := some 12, op := _, type := _, pos := _, after := _, guard := _ }) (v := .pointer (some ⟨w.heap.size, 0, none⟩)) rfl (by kernel_rfl) (by kernel_rfl) (by kernel_rfl) (fun _ _ _ h => h) (Or.inl ⟨by rfl, fun w' hSw => ?_⟩) (by assumption) ?_
    · ((try dsimp only at hSw); go_simp)
    try simp only [Act.put, List.setIfInBounds_toArray, List.set_cons_zero, List.set_cons_succ]
    refine wpAnyH_take (i := 10) (oi := { dst := some 13, op := _, type := _, pos := _, after := _, guard := _ }) (v := .string x.name) rfl (by kernel_rfl) (by kernel_rfl) (by kernel_rfl) (fun _ _ _ h => h) (Or.inl ⟨by rfl, fun w' hSw => ?_⟩) (by assumption) ?_
    · (have q0 := (hSw.cell (rec_cell_lt p0)).trans p0; have q1 := (hSw.cell (rec_cell_lt p1)).trans p1; have q2 := (hSw.cell (rec_cell_lt p2)).trans p2; go_simp)
    try simp only [Act.put, List.setIfInBounds_toArray, List.set_cons_zero, List.set_cons_succ]
    obtain ⟨h, hh⟩ : ∃ h, decide (x.name.data.toList ∈ x.deps) = h := ⟨_, rfl⟩
    have HH := Lib.hid hh
    rw [Bool.true_and, hh] at HR
    clear hh
    refine wpAnyH_ready (rs := [11]) (by kernel_rfl) (by simp) ?_
    refine AllReadyH.cons rfl (fun K hK => ?_) AllReadyH.nil
    go_simp
    go_at_call 46
    refine (phas_any x.a1 x.deps x.c1 x.name _ (OX.out.deps.on XB2.out) SX.out.few h HH.out).mono ?_
    rintro e we ⟨rfl, hb⟩
    have XB3 := Lib.hid (XB2.out.trans (hb.mono XB2.out.size))
    clear hb
    refine hK.out _ _ (XB3.out) (fun hHeld11 => ?_)
    clear hK K hHeld5 XB2
    try simp only [Act.put, List.setIfInBounds_toArray, List.set_cons_zero, List.set_cons_succ]
    have HF : Hid (r = !h) := HR.out.symm
    refine wpAnyH_take (i := 12) (oi := { dst := some 15, op := _, type := _, pos := _, after := _, guard := _ }) (v := .bool !h) rfl (by kernel_rfl) (by kernel_rfl) (by kernel_rfl) (fun _ _ _ h => h) (Or.inl ⟨by rfl, fun w' hSw => ?_⟩) (by assumption) ?_
    · ((try dsimp only at hSw); go_simp)
    try simp only [Act.put, List.setIfInBounds_toArray, List.set_cons_zero, List.set_cons_succ]
    refine wpAnyH_take (i := 13) (oi := { dst := some 16, op := _, type := _, pos := _, after := _, guard := _ }) (v := .bool !h) rfl (by kernel_rfl) (by kernel_rfl) (by kernel_rfl) (fun _ _ _ h => h) (Or.inl ⟨by rfl, fun w' hSw => ?_⟩) (by assumption) ?_
    · ((try dsimp only at hSw); go_simp)
    try simp only [Act.put, List.setIfInBounds_toArray, List.set_cons_zero, List.set_cons_succ]
    refine wpAnyH_take (i := 14) (oi := { dst := some 2, op := _, type := _, pos := _, after := _, guard := _ }) (v := .bool !h) rfl (by kernel_rfl) (by kernel_rfl) (by kernel_rfl) (fun _ _ _ h => h) (Or.inl ⟨by rfl, fun w' hSw => ?_⟩) (by assumption) ?_
    · ((try dsimp only at hSw); go_simp)
    try simp only [Act.put, List.setIfInBounds_toArray, List.set_cons_zero, List.set_cons_succ]
    refine wpAnyH_done (by kernel_rfl) ?_ _
    refine NoPanic.normal ?_
    go_wp2
    go_ret
    exact ⟨by rw [HF.out]; rfl, HB.out.trans (XB3.out.mono HB.out.size)⟩
set_option maxHeartbeats 4000000 in
set_option maxRecDepth 100000 in
theorem pcheck_any (x : Ptm) (w : World) (ox : x.Ok w w.heap.size) (sx : x.Ck) (hT : Tabs w) (r : Int) (hr : checkP x.key = r) :
    Calls Tryz.prog 41 #[.agg #[.string x.name, .slice x.a1 x.deps.length x.c1, .slice x.a2 x.ops.length x.c2]] w fun e w' => e = .returned (.int .i64 r) ∧ Below w.heap.size w w' := by
  obtain ⟨hb, hx⟩ := pat_box w x
  have HP := Lib.hid hx
  have HB := Lib.hid hb
  have OX := Lib.hid (ox.on hb)
  have HT := Lib.hid (Tabs.on hT hb)
  have SX := Lib.hid sx
  rw [check_is, show nameK x.key.name = rightB x.name from congrArg rightB (toB_of x.name), show x.key.deps = x.deps from rfl] at hr
  obtain ⟨a, ha⟩ : ∃ a, rightB x.name = a := ⟨_, rfl⟩
  obtain ⟨d, hd⟩ : ∃ d, x.deps.all nameK = d := ⟨_, rfl⟩
  obtain ⟨u, hu⟩ : ∃ u, hungP x.key = u := ⟨_, rfl⟩
  obtain ⟨v, hv⟩ : ∃ v, doneP x.key = v := ⟨_, rfl⟩
  rw [ha, hd, hu, hv] at hr
  have HRI : Hid (u = true → Rising x.deps) := fun e => by
    rw [e] at hu
    unfold hungP at hu
    rw [Bool.and_eq_true, decide_eq_true_eq] at hu
    have h := rising_setS x.key.deps
    rw [← hu.1] at h
    exact h
  have HA := Lib.hid ha
  have HD := Lib.hid hd
  have HU := Lib.hid hu
  have HV := Lib.hid hv
  have HR := Lib.hid hr
  clear hb hx ox hT sx ha hd hu hv hr
  go_enter Tryz.func41, Tryz.ntmps41
  go_upto_region 1 with (fail)
  generalize (w.alloc (.cells #[.string x.name, .slice x.a1 x.deps.length x.c1, .slice x.a2 x.ops.length x.c2] 35)) = wb at *
  generalize (Value.agg #[.string x.name, .slice x.a1 x.deps.length x.c1, .slice x.a2 x.ops.length x.c2]) = vx
  have CN := Lib.hid (nname_any x.name wb SX.out.name a HA.out)
  have p0 := HP.out.c0
  have p1 := HP.out.c1
  go_wp2_with fail
  refine CN.out.mono ?_
  rintro e w1 ⟨rfl, hb1⟩
  replace HP := Lib.hid (HP.out.on hb1)
  replace OX := Lib.hid (OX.out.on hb1)
  replace HT := Lib.hid (Tabs.on HT.out hb1)
  replace HB := Lib.hid (HB.out.trans (hb1.mono HB.out.size))
  clear hb1 CN p0 p1 HA
  have p0 := HP.out.c0
  have p1 := HP.out.c1
  have p2 := HP.out.c2
  cases a
  · have HF : Hid (r = 7) := HR.out.symm
    clear HR
    go_wp2
    go_ret
    exact ⟨by rw [HF.out]; rfl, HB.out⟩
  · have CC := Lib.hid (ncontains_any x.a1 x.deps x.c1 w1 OX.out.deps SX.out.few SX.out.deps d HD.out)
    go_wp2_with fail
    refine CC.out.mono ?_
    rintro e w2 ⟨rfl, hb2⟩
    replace HP := Lib.hid (HP.out.on hb2)
    replace OX := Lib.hid (OX.out.on hb2)
    replace HT := Lib.hid (Tabs.on HT.out hb2)
    replace HB := Lib.hid (HB.out.trans (hb2.mono HB.out.size))
    clear hb2 CC p0 p1 p2 HD
    have p0 := HP.out.c0
    have p1 := HP.out.c1
    have p2 := HP.out.c2
    cases d
    · have HF : Hid (r = 7) := HR.out.symm
      clear HR
      go_wp2
      go_ret
      exact ⟨by rw [HF.out]; rfl, HB.out⟩
    · have CH := Lib.hid (phung_any x w2 OX.out SX.out u HU.out)
      go_wp2_with fail
      refine CH.out.mono ?_
      rintro e w3 ⟨rfl, hb3⟩
      replace HP := Lib.hid (HP.out.on hb3)
      replace OX := Lib.hid (OX.out.on hb3)
      replace HT := Lib.hid (Tabs.on HT.out hb3)
      replace HB := Lib.hid (HB.out.trans (hb3.mono HB.out.size))
      clear hb3 CH p0 p1 p2 HU
      have p0 := HP.out.c0
      have p1 := HP.out.c1
      have p2 := HP.out.c2
      cases u
      · have HF : Hid (r = 2) := HR.out.symm
        clear HR
        go_wp2
        go_ret
        exact ⟨by rw [HF.out]; rfl, HB.out⟩
      · have CD := Lib.hid (pdone_any x w3 OX.out SX.out HT.out (HRI.out rfl) v HV.out)
        go_wp2_with fail
        refine CD.out.mono ?_
        rintro e w4 ⟨rfl, hb4⟩
        replace HB := Lib.hid (HB.out.trans (hb4.mono HB.out.size))
        clear hb4 CD p0 p1 p2 HV
        cases v
        · have HF : Hid (r = 2) := HR.out.symm
          clear HR
          go_wp2
          go_ret
          exact ⟨by rw [HF.out]; rfl, HB.out⟩
        · have HF : Hid (r = 0) := HR.out.symm
          clear HR
          go_wp2
          go_ret
          exact ⟨by rw [HF.out]; rfl, HB.out⟩
end Go.Proofs.YtifkpelcdihdoaaGreatDoor
namespace Go.Proofs.YtifkpelcdihdoaaGreatDoor
open Go.RowKit
set_option linter.unusedVariables false

theorem dlt_ck {x : Ptm} (h : x.Lt) (k : x.In) : x.Ck := by
  have h1 := h.name
  have h2 := h.few
  have h3 := h.many
  exact ⟨by omega, by omega, fun d hd => by have := h.deps d hd; omega, by omega, fun o ho => lt_sz (h.ops o ho) (k.ops o ho)⟩
/-- The statements' two patches, as they lie. -/
structure Aw (x y : Ptm) : Prop where
  xn : x.name.data.toList = [98]
  xd : x.deps = [[97]]
  xo : x.ops = []
  yn : y.name.data.toList = [97]
  yd : y.deps = []
  yo : y.ops = []
theorem aw_of {x y : Ptm} (hx : x.key = awB) (hy : y.key = awA) : Aw x y := by
  have ops : ∀ z : Ptm, okeys z.ops = [] → z.ops = [] := fun z h => List.length_eq_zero_iff.1 (by rw [← okeys_len, h]; rfl)
  exact ⟨congrArg PatK.name hx, congrArg PatK.deps hx, ops x (congrArg PatK.ops hx), congrArg PatK.name hy, congrArg PatK.deps hy, ops y (congrArg PatK.ops hy)⟩
theorem aw_two {l : List Ptm} (h : pkeys l = [awB, awA]) : ∃ x y, l = [x, y] ∧ x.key = awB ∧ y.key = awA := by
  have hl : l.length = 2 := by rw [← pkeys_len, h]; rfl
  match l, hl, h with
  | [x, y], _, h =>
    simp only [pkeys, List.map_cons, List.map_nil, List.cons.injEq, and_true] at h
    exact ⟨x, y, rfl, h.1, h.2⟩
theorem Aw.ne {x y : Ptm} (h : Aw x y) : x.name ≠ y.name := fun e => by
  have h1 := h.xn
  rw [e, h.yn] at h1
  cases h1
theorem Aw.map_x {x y : Ptm} (h : Aw x y) : mapP [x, y] x.name = some x.val := by
  show (if x.name = y.name then some y.val else if x.name = x.name then some x.val else none) = _
  rw [if_neg h.ne, if_pos rfl]
theorem Aw.map_y {x y : Ptm} : mapP [x, y] y.name = some y.val := by
  show (if y.name = y.name then some y.val else if y.name = x.name then some x.val else none) = _
  rw [if_pos rfl]
theorem Aw.map_of {x y : Ptm} {s : ByteArray} {v : Value} (h : mapP [x, y] s = some v) : (s = x.name ∧ v = x.val) ∨ (s = y.name ∧ v = y.val) := by
  change (if s = y.name then some y.val else if s = x.name then some x.val else none) = some v at h
  by_cases e : s = y.name
  · rw [if_pos e] at h
    exact .inr ⟨e, (Option.some.inj h).symm⟩
  · rw [if_neg e] at h
    by_cases e2 : s = x.name
    · rw [if_pos e2] at h
      exact .inl ⟨e2, (Option.some.inj h).symm⟩
    · rw [if_neg e2] at h
      cases h
theorem Aw.y_is {x y : Ptm} (h : Aw x y) : toB [97] = y.name := bytes_inj (by rw [of_toB, h.yn])
set_option maxHeartbeats 8000000 in
set_option maxRecDepth 100000 in
theorem dcheck_any (A : Option Addr) (l : List Ptm) (c : Nat) (w : World) (hd : DepIn w A l c) (hk : pkeys l = [awB, awA]) :
    Calls Tryz.prog 20 #[.slice A l.length c] w fun e w' => e = .returned (.int .i64 0) ∧ Below w.heap.size w w' := by
  obtain ⟨x, y, rfl, hx, hy⟩ := aw_two hk
  have HD := Lib.hid hd
  have HW := Lib.hid (aw_of hx hy)
  have HCK : Hid (∀ z ∈ [x, y], checkP z.key = 0) := fun z hz => by
    rcases List.mem_cons.1 hz with rfl | hz
    · rw [hx]; decide +kernel
    · rw [List.mem_singleton.1 hz, hy]; decide +kernel
  have CB := Lib.hid (fun (W : World) (hW : Below w.heap.size w W) => byname_any A [x, y] c W (hd.pats.on hW) (by simp) (fun z hz => by have := (hd.inn z hz).name; omega))
  clear hd hk hx hy
  show Calls Tryz.prog 20 #[.slice A 2 c] w _
  go_enter Tryz.func20, Tryz.ntmps20
  go_wp2_with fail
  go_loopw [12] (fun i wr => ∃ k : Nat, k ≤ 2 ∧ i = .int .i64 (k : Int) ∧ Hid (Below w.heap.size w wr)) (fun i _ => 2 - (intOf i).toNat)
  case atStart => exact ⟨0, by omega, rfl, Below.refl _ _⟩
  case round =>
    obtain ⟨k, hk, rfl, HB⟩ := hrel
    by_cases hlt : k < 2
    · have hlt2 : k < [x, y].length := hlt
      obtain ⟨b, off, rfl, hbB, hcx⟩ := (HD.out.on HB.out).pats.1.get hlt2
      have hm := List.getElem_mem hlt2
      have hok := (HD.out.on HB.out).pats.2 _ hm
      have IA := pat_indexAt (c := c) (n := 2) (A := some ⟨b, off, none⟩) rfl hlt
      have u0 : (0 : Int) ≤ (k : Int) := by omega
      have u1 : (k : Int) < 2 := by omega
      generalize [x, y][k] = z at *
      have RX := Lib.hid (pat_rng hcx)
      obtain ⟨hbx, hX⟩ := pat_box wr z
      have hB1 := HB.out.trans (hbx.mono HB.out.size)
      have HB1 := Lib.hid hB1
      have HXB := Lib.hid (pat_range hX)
      have CC := Lib.hid (pcheck_any z _ (hok.on hbx) (dlt_ck (HD.out.lt z hm) (HD.out.inn z hm)) (Tabs.on HD.out.tabs hB1) 0 (HCK.out z hm))
      clear hcx hbB hbx hX hB1 hok hm HB
      go_upto_region 4 with ((with_reducible refine wpList_load_patw (.tmp 14) b (off + k * 3) z RX.out ?_ ?_ ?_ ?_); rfl; rfl; rfl; simp only [Act.put, List.setIfInBounds_toArray, List.set_cons_zero, List.set_cons_succ])
      generalize (wr.alloc (.cells #[.string z.name, .slice z.a1 z.deps.length z.c1, .slice z.a2 z.ops.length z.c2] 35)) = wa at *
      generalize wr.heap.size = gx at *
      clear RX IA
      go_wp2_with ((with_reducible refine wpList_load_patw (.tmp 4) gx 0 z HXB.out ?_ ?_ ?_ ?_); rfl; rfl; rfl; simp only [Act.put, List.setIfInBounds_toArray, List.set_cons_zero, List.set_cons_succ])
      refine CC.out.mono ?_
      rintro e w4 ⟨rfl, hb4⟩
      have HB4 := Lib.hid (HB1.out.trans (hb4.mono HB1.out.size))
      clear hb4 CC HB1 HXB
      go_wp2
      go_roundw
      case rel => exact ⟨k + 1, by omega, by go_num, HB4.out⟩
      case measure => simp [intOf]; omega
    · have C := Lib.hid (CB.out wr HB.out)
      have C : Hid (Calls Tryz.prog 42 #[.slice A 2 c] wr _) := C.out
      -- @P1
      go_wp2_with fail
      refine C.out.mono ?_
      rintro e w5 ⟨b, rfl, hm, hb5⟩
      have HM := Lib.hid hm
      have HB5 := Lib.hid (HB.out.trans (hb5.mono HB.out.size))
      have C2 := Lib.hid (dclosed_any b 2 (mapP [x, y]) w5 hm)
      have hxy := HW.out.ne
      have hsx : (mapP [x, y] x.name).isSome = true := by rw [HW.out.map_x]; rfl
      have hsy : (mapP [x, y] y.name).isSome = true := by rw [Aw.map_y]; rfl
      clear hm hb5 C HB CB
      go_wp2_with (at_len; refine wpList_len_two _ _ Tryz.underlying67 rfl _ rfl b 2 (mapP [x, y]) rfl HM.out x.name y.name hxy hsx hsy ?_; intro k2 h2 h3; obtain rfl : k2 = 2 := by omega)
      refine C2.out.mono ?_
      rintro e w6 ⟨g, rfl, hv, hb6⟩
      have HV := Lib.hid hv
      have HM6 := Lib.hid (HM.out.on hb6)
      have HB6 := Lib.hid (HB5.out.trans (hb6.mono HB5.out.size))
      have HL : Hid (∀ s : ByteArray, s.data.toList ∈ namesD (pkeys [x, y]) ↔ (mapP [x, y] s).isSome = true) := fun s => by rw [mapP_some]; simp
      clear hv hb6 HM HB5 C2 hxy hsx hsy
      -- @P2
      go_wp2_with (at_range; refine wpList_range_str _ _ Tryz.underlying67 rfl _ rfl b 2 (mapP [x, y]) (namesD (pkeys [x, y])) rfl HM6.out HL.out ?_)
      intro w7 cnt hcnt hl7 hg7 hsz
      have HB7 : Hid (Below w6.heap.size w6 w7) := below_none hg7
      have HL7 := Lib.hid hl7
      have HR : Hid (w6.heap.size ≤ w6.heap.size) := Nat.le_refl _
      generalize hr : w6.heap.size = r at HL7
      have HRE := Lib.hid hr
      clear hcnt hl7 hg7 hsz hr
      go_wp2_with fail
      go_loopw [] (fun wr => ∃ left cnt, Hid (StrLeft wr b r 2 (mapP [x, y]) left cnt) ∧ Hid (Below w6.heap.size w6 wr)) (fun wr => wr.rangeLeft b r)
      case atStart => exact ⟨_, _, HL7.out, HB7.out⟩
      case round =>
        clear HL7 HB7
        obtain ⟨left, cnt, HLF, HBr⟩ := hrel
        -- @P3
        go_wp2_with (at_next; refine wpList_next_str rfl _ rfl b r 2 (mapP [x, y]) left cnt rfl HLF.out ?_ ?_)
        · intro h0
          have HF := Lib.hid (HB6.out.trans (HBr.out.mono HB6.out.size))
          clear h0
          go_wp2
          go_ret
          exact ⟨rfl, HF.out⟩
        · intro s v w8 cnt8 hlt8 hin hfs hz hl8 hg8 hsz8 hen
          obtain ⟨p, hp, rfl, hC⟩ : ∃ p : Ptm, p ∈ [x, y] ∧ v = p.val ∧ ∀ W, Below w6.heap.size w6 W → Calls Tryz.prog 69 #[.agg #[.string p.name, .slice p.a1 p.deps.length p.c1, .slice p.a2 p.ops.length p.c2], .pointer (some ⟨g, 0, none⟩)] W fun e w' => e = .returned (.bool true) ∧ Below W.heap.size W w' := by
            rcases Aw.map_of hfs with ⟨_, rfl⟩ | ⟨_, rfl⟩
            · exact ⟨x, by simp, rfl, fun W hW => dclosed1_one g 2 (mapP [x, y]) x y [97] W (HV.out.on hW) ((HD.out.on (HB6.out.trans (hW.mono HB6.out.size))).pats.2 x (by simp)) HW.out.xd (by decide) (by rw [HW.out.y_is]; exact Aw.map_y) HW.out.yd (by have := (HD.out.inn y (by simp)).name; omega)⟩
            · exact ⟨y, by simp, rfl, fun W hW => dclosed1_none g 2 (mapP [x, y]) y W (HV.out.on hW) HW.out.yd⟩
          have HB8 : Hid (Below w6.heap.size w6 w8) := HBr.out.grown hg8 HBr.out.size (fun q hq => by simp only [Option.some.injEq] at hq; have := HRE.out; omega)
          have HLT : Hid (cnt8 < wr.rangeLeft b r) := by show _ < _; rw [HLF.out.eq]; exact hlt8
          obtain ⟨hbx, hX⟩ := pat_box w8 p
          have HXB := Lib.hid (pat_range hX)
          have HL9 := Lib.hid (hl8.on hbx)
          have HB9 := Lib.hid (HB8.out.trans (hbx.mono HB8.out.size))
          have CP := Lib.hid (hC _ HB9.out)
          unfold Ptm.val Ptm.cells at hen ⊢
          clear hl8 hg8 hsz8 hin hfs hz hC hbx hX HLF HBr HB8 hlt8 hp
          -- @P4
          go_upto_region 15 with (fail)
          generalize (w8.alloc (.cells #[.string p.name, .slice p.a1 p.deps.length p.c1, .slice p.a2 p.ops.length p.c2] 35)) = w9 at *
          generalize w8.heap.size = gx at *
          clear hen
          go_wp2_with ((with_reducible refine wpList_load_patw (.tmp 9) gx 0 p HXB.out ?_ ?_ ?_ ?_); rfl; rfl; rfl; simp only [Act.put, List.setIfInBounds_toArray, List.set_cons_zero, List.set_cons_succ])
          refine CP.out.mono ?_
          rintro e w10 ⟨rfl, hb10⟩
          have HL10 := Lib.hid (HL9.out.on hb10)
          have HB10 := Lib.hid (HB9.out.trans (hb10.mono HB9.out.size))
          clear hb10 CP HL9 HB9 HXB
          go_wp2
          go_roundw
          case rel => exact ⟨_, _, HL10.out, HB10.out⟩
          case measure => rw [HL10.out.eq]; exact HLT.out
set_option maxHeartbeats 4000000 in
set_option maxRecDepth 100000 in
theorem dbeside_any (x y : Ptm) (w : World) (ox : x.Ok w w.heap.size) (oy : y.Ok w w.heap.size) (kx : x.key = awA) (ky : y.key = awB) :
    Calls Tryz.prog 22 #[.agg #[.string x.name, .slice x.a1 x.deps.length x.c1, .slice x.a2 x.ops.length x.c2], .agg #[.string y.name, .slice y.a1 y.deps.length y.c1, .slice y.a2 y.ops.length y.c2]] w fun e w' => e = .returned (.bool false) ∧ Below w.heap.size w w' := by
  have W := aw_of ky kx
  obtain ⟨hb0, hx0⟩ := pat_box w x
  obtain ⟨hb1, hy1⟩ := pat_box (w.alloc (.cells #[.string x.name, .slice x.a1 x.deps.length x.c1, .slice x.a2 x.ops.length x.c2] 35)) y
  have hs : (w.alloc (.cells #[.string x.name, .slice x.a1 x.deps.length x.c1, .slice x.a2 x.ops.length x.c2] 35)).heap.size = w.heap.size + 1 := by simp
  have hx1 := hx0.on hb1
  have HB := Lib.hid (hb0.trans (hb1.mono hb0.size))
  have hn : x.name ≠ y.name := W.ne.symm
  have HX := Lib.hid hx1
  have HY := Lib.hid hy1
  rw [hs] at HY
  have H1 := Lib.hid (phas_any x.a1 x.deps x.c1 y.name _ ((ox.on hb0).on hb1).deps (by rw [W.yd]; decide) false (by rw [W.yd]; rfl))
  have H2 := Lib.hid (fun (V : World) (hV : Below _ _ V) => phas_any y.a1 y.deps y.c1 x.name V ((((oy.on hb0).on hb1).on hV).deps) (by rw [W.xd]; decide) true (by rw [W.xd, W.yn]; rfl))
  clear hb0 hx0 hb1 hy1 hs hx1 ox oy kx ky W
  go_enter Tryz.func22, Tryz.ntmps22
  go_upto_region 1 with (fail)
  generalize ((w.alloc (.cells #[.string x.name, .slice x.a1 x.deps.length x.c1, .slice x.a2 x.ops.length x.c2] 35)).alloc (.cells #[.string y.name, .slice y.a1 y.deps.length y.c1, .slice y.a2 y.ops.length y.c2] 35)) = wb at *
  have x0 := HX.out.c0
  have x1 := HX.out.c1
  have y0 := HY.out.c0
  have y1 := HY.out.c1
  have q1 : (x.name.toList == y.name.toList) = false := str_ne hn
  have q2 : (x.name.toList != y.name.toList) = true := by rw [bne, q1]; rfl
  -- @P5
  go_wp2_with fail
  refine H1.out.mono ?_
  rintro e w1 ⟨rfl, hb1⟩
  have H3 := Lib.hid (H2.out w1 hb1)
  have HB1 := Lib.hid (HB.out.trans (hb1.mono HB.out.size))
  have x0 := cell_on x0 hb1
  have x1 := cell_on x1 hb1
  have y0 := cell_on y0 hb1
  have y1 := cell_on y1 hb1
  clear hb1 H1 H2 HX HY HB
  go_wp2_with fail
  refine H3.out.mono ?_
  rintro e w2 ⟨rfl, hb2⟩
  have HF := Lib.hid (HB1.out.trans (hb2.mono HB1.out.size))
  clear hb2 H3 HB1
  go_wp2
  go_ret
  exact ⟨rfl, HF.out⟩
end Go.Proofs.YtifkpelcdihdoaaGreatDoor
