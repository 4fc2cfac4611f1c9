/- The reference's Apart of layer 8. -/
import Derived.BigQuiet
import Derived.Deep.QuietTactic
import Derived.Handy
import Derived.Test.YtalabahjfmcnbaaGreatDoorShelf
import Derived.Deep.RegionHeld3
import Derived.WalkKit
import Derived.Test.YtalabahjfmcnbaaGreatDoorCk26
namespace Go.Proofs.YtalabahjfmcnbaaGreatDoor
open Go.RowKit
set_option linter.unusedVariables false

theorem touch_size {p : Pk} (h : WdK p) {z : List UInt8} (hz : z ∈ touches p) : z.length ≤ 1000000 := by
  unfold touches at hz
  split at hz
  · simp only [List.mem_cons, List.not_mem_nil, or_false] at hz
    rcases hz with rfl | rfl
    · exact h.p
    · exact h.q
  · simp only [List.mem_cons, List.not_mem_nil, or_false] at hz
    subst hz
    exact h.p
theorem touch_some (p : Pk) : 0 < (touches p).length := by
  unfold touches
  split <;> simp
theorem apart_no {p q : Pk} {i j : Nat} (hi : i < (touches p).length) (hj : j < (touches q).length) (h : ¬ (nearP p (touches p)[i] (touches q)[j] = false ∧ nearP q (touches q)[j] (touches p)[i] = false)) : apartP p q = false := by
  cases ha : apartP p q with
  | false => rfl
  | true =>
    unfold apartP at ha
    simp only [List.all_eq_true] at ha
    have := ha _ (List.getElem_mem hi) _ (List.getElem_mem hj)
    simp only [Bool.and_eq_true, Bool.not_eq_true'] at this
    exact absurd this h
theorem apart_yes {p q : Pk} (h : ∀ i j (hi : i < (touches p).length) (hj : j < (touches q).length), nearP p (touches p)[i] (touches q)[j] = false ∧ nearP q (touches q)[j] (touches p)[i] = false) : apartP p q = true := by
  unfold apartP
  simp only [List.all_eq_true]
  intro a ha b hb
  obtain ⟨i, hi, rfl⟩ := List.getElem_of_mem ha
  obtain ⟨j, hj, rfl⟩ := List.getElem_of_mem hb
  obtain ⟨h1, h2⟩ := h i j hi hj
  rw [h1, h2]
  rfl
set_option maxHeartbeats 20000000 in
set_option maxRecDepth 100000 in
theorem refapart_any (x y : Pm) (w : World) (ox : x.Ok w w.heap.size) (oy : y.Ok w w.heap.size) (wx : WdK x.key) (wy : WdK y.key) (hT : Tabs w) (hx0 : ckP x.key = 0) (hy0 : ckP y.key = 0) (r : Bool) (hr : apartP x.key y.key = r) :
    Calls Tryz.prog 43 #[x.val, y.val] w fun e w' => e = .returned (.bool r) ∧ Below w.heap.size w w' := by
  have C1 := Lib.hid (fun W (hb : Below w.heap.size w W) => reftouches_any x W (ox.on hb) wx (Tabs.on hT hb))
  have C2 := Lib.hid (fun W (hb : Below w.heap.size w W) => reftouches_any y W (oy.on hb) wy (Tabs.on hT hb))
  rw [show touchesR x.key = touches x.key from if_pos hx0] at C1
  rw [show touchesR y.key = touches y.key from if_pos hy0] at C2
  have HSX := Lib.hid (fun z hz => touch_size wx (z := z) hz)
  have HSY := Lib.hid (fun z hz => touch_size wy (z := z) hz)
  have HNO : Hid (∀ i j (hi : i < (touches x.key).length) (hj : j < (touches y.key).length), ¬ (nearP x.key (touches x.key)[i] (touches y.key)[j] = false ∧ nearP y.key (touches y.key)[j] (touches x.key)[i] = false) → r = false) := fun i j hi hj h => by rw [← hr]; exact apart_no hi hj h
  have HYES : Hid ((∀ i j (hi : i < (touches x.key).length) (hj : j < (touches y.key).length), nearP x.key (touches x.key)[i] (touches y.key)[j] = false ∧ nearP y.key (touches y.key)[j] (touches x.key)[i] = false) → r = true) := fun h => by rw [← hr]; exact apart_yes h
  have hx1 := touch_some x.key
  have hy1 := touch_some y.key
  have hx2 : (touches x.key).length ≤ 2 := by unfold touches; split <;> simp
  have hy2 : (touches y.key).length ≤ 2 := by unfold touches; split <;> simp
  clear ox oy wx wy hT hx0 hy0 hr
  generalize touches x.key = tx at *
  generalize touches y.key = ty at *
  unfold Pm.val at C1 C2 ⊢
  obtain ⟨hal, hx, hy⟩ := box2 w x y
  have e0 : ((w.alloc (.cells x.cells.toArray 33)).alloc (.cells y.cells.toArray 33)) = ((w.alloc (.cells #[.int .i64 x.kind, .string x.p, .string x.dst, .int .i64 x.at_, .slice x.a1 x.old.length x.c1, .slice x.a2 x.new.length x.c2] 33)).alloc (.cells #[.int .i64 y.kind, .string y.p, .string y.dst, .int .i64 y.at_, .slice y.a1 y.old.length y.c1, .slice y.a2 y.new.length y.c2] 33)) := rfl
  rw [e0] at hal hx hy
  have HX := Lib.hid hx
  have HY := Lib.hid hy
  have HA := Lib.hid hal
  clear hal hx hy e0
  have x0 := HX.out.c0
  have x1 := HX.out.c1
  have x2 := HX.out.c2
  have x3 := HX.out.c3
  have x4 := HX.out.c4
  have x5 := HX.out.c5
  go_enter Tryz.func43, Tryz.ntmps43
  go_wp2_with fail
  generalize hwa : ((w.alloc (.cells #[.int .i64 x.kind, .string x.p, .string x.dst, .int .i64 x.at_, .slice x.a1 x.old.length x.c1, .slice x.a2 x.new.length x.c2] 33)).alloc (.cells #[.int .i64 y.kind, .string y.p, .string y.dst, .int .i64 y.at_, .slice y.a1 y.old.length y.c1, .slice y.a2 y.new.length y.c2] 33)) = wa at *
  clear hwa
  refine (C1.out wa HA.out).mono ?_
  rintro e w1 ⟨A1, c1, rfl, _, hs1, hb⟩
  have HS1 := Lib.hid hs1
  replace HX := Lib.hid (HX.out.on hb)
  replace HY := Lib.hid (HY.out.on hb)
  replace HA := Lib.hid (HA.out.trans (hb.mono HA.out.size))
  clear hb hs1 C1 x0 x1 x2 x3 x4 x5
  have y0 := HY.out.c0
  have y1 := HY.out.c1
  have y2 := HY.out.c2
  have y3 := HY.out.c3
  have y4 := HY.out.c4
  have y5 := HY.out.c5
  go_wp2_with fail
  refine (C2.out w1 HA.out).mono ?_
  rintro e w2 ⟨A2, c2, rfl, _, hs2, hb⟩
  have HS2 := Lib.hid hs2
  replace HS1 := Lib.hid (HS1.out.on hb)
  replace HX := Lib.hid (HX.out.on hb)
  replace HY := Lib.hid (HY.out.on hb)
  replace HA := Lib.hid (HA.out.trans (hb.mono HA.out.size))
  clear hb hs2 C2 y0 y1 y2 y3 y4 y5
  obtain ⟨b1, f1, rfl, _, _⟩ := HS1.out.at_ (k := 0) (by rw [toBs_len]; exact hx1)
  obtain ⟨b2, f2, rfl, _, _⟩ := HS2.out.at_ (k := 0) (by rw [toBs_len]; exact hy1)
  have HI0 : Hid (Below w2.heap.size w2 w2) := Below.refl _ _
  go_wp2
  go_loopw [7] (fun iv wr => ∃ i : Nat, iv = .int .i64 (i : Int) ∧ i ≤ tx.length ∧ Hid (∀ a b (ha : a < tx.length) (hb : b < ty.length), a < i → nearP x.key tx[a] ty[b] = false ∧ nearP y.key ty[b] tx[a] = false) ∧ Hid (Below w2.heap.size w2 wr)) (fun iv _ => tx.length - (intOf iv).toNat)
  case atStart => exact ⟨0, rfl, Nat.zero_le _, fun a b ha hb h => by omega, HI0.out⟩
  case round =>
    clear HI0
    obtain ⟨i, rfl, hi, HC, HI⟩ := hrel
    by_cases hlt : i < tx.length
    · have hlt2 : (i : Int) < (tx.length : Int) := by omega
      go_wp2
      go_loopw [8] (fun jv wr => ∃ j : Nat, jv = .int .i64 (j : Int) ∧ j ≤ ty.length ∧ Hid (∀ b (hb : b < ty.length), b < j → nearP x.key tx[i] ty[b] = false ∧ nearP y.key ty[b] tx[i] = false) ∧ Hid (Below w2.heap.size w2 wr)) (fun jv _ => ty.length - (intOf jv).toNat)
      case atStart => exact ⟨0, rfl, Nat.zero_le _, fun b hb h => by omega, HI.out⟩
      case round =>
        clear HI
        obtain ⟨j, rfl, hj, HD, HI⟩ := hrel
        by_cases hjt : j < ty.length
        · obtain ⟨_, _, e, _, k1⟩ := (HS1.out.on HI.out).at_ (k := i) (by rw [toBs_len]; exact hlt)
          cases e
          obtain ⟨_, _, e, _, k2⟩ := (HS2.out.on HI.out).at_ (k := j) (by rw [toBs_len]; exact hjt)
          cases e
          rw [show (toBs tx)[i]'(by rw [toBs_len]; exact hlt) = toB tx[i] by simp [toBs]] at k1
          rw [show (toBs ty)[j]'(by rw [toBs_len]; exact hjt) = toB ty[j] by simp [toBs]] at k2
          obtain ⟨sx, hex⟩ : ∃ s, toB tx[i] = s := ⟨_, rfl⟩
          obtain ⟨sy, hey⟩ : ∃ s, toB ty[j] = s := ⟨_, rfl⟩
          have dx : sx.data.toList = tx[i] := by rw [← hex, of_toB]
          have dy : sy.data.toList = ty[j] := by rw [← hey, of_toB]
          have hsx : sx.size ≤ 9223372036854775807 := by
            have h1 := HSX.out tx[i] (List.getElem_mem _)
            have h2 : sx.size = sx.data.toList.length := by simp
            rw [h2, dx]
            omega
          have hsy : sy.size ≤ 9223372036854775807 := by
            have h1 := HSY.out ty[j] (List.getElem_mem _)
            have h2 : sy.size = sy.data.toList.length := by simp
            rw [h2, dy]
            omega
          rw [hex] at k1
          rw [hey] at k2
          obtain ⟨d1, hd1⟩ : ∃ d, nearP x.key tx[i] ty[j] = d := ⟨_, rfl⟩
          obtain ⟨d2, hd2⟩ : ∃ d, nearP y.key ty[j] tx[i] = d := ⟨_, rfl⟩
          have HD1 : Hid (nearP x.key sx.data.toList sy.data.toList = d1) := by show _ = _; rw [dx, dy]; exact hd1
          have HD2 : Hid (nearP y.key sy.data.toList sx.data.toList = d2) := by show _ = _; rw [dx, dy]; exact hd2
          have HN := Lib.hid (HNO.out i j hlt hjt)
          rw [hd1, hd2] at HN
          have HE : Hid (d1 = false → d2 = false → ∀ b (hb : b < ty.length), b < j + 1 → nearP x.key tx[i] ty[b] = false ∧ nearP y.key ty[b] tx[i] = false) := by
            intro h1 h2 b hb hbj
            by_cases he : b = j
            · subst he
              exact ⟨hd1.trans h1, hd2.trans h2⟩
            · exact HD.out b hb (by omega)
          have HXI := Lib.hid (HX.out.on HI.out)
          have HYI := Lib.hid (HY.out.on HI.out)
          have HKS : Hid (∀ W, Below wr.heap.size wr W → W.cell? ⟨w.heap.size, 0, none⟩ = some (.int .i64 x.kind) ∧ W.cell? ⟨w.heap.size, 1, none⟩ = some (.string x.p) ∧ W.cell? ⟨w.heap.size, 2, none⟩ = some (.string x.dst) ∧ W.cell? ⟨w.heap.size, 3, none⟩ = some (.int .i64 x.at_) ∧ W.cell? ⟨w.heap.size, 4, none⟩ = some (.slice x.a1 x.old.length x.c1) ∧ W.cell? ⟨w.heap.size, 5, none⟩ = some (.slice x.a2 x.new.length x.c2) ∧ W.cell? ⟨w.heap.size + 1, 0, none⟩ = some (.int .i64 y.kind) ∧ W.cell? ⟨w.heap.size + 1, 1, none⟩ = some (.string y.p) ∧ W.cell? ⟨w.heap.size + 1, 2, none⟩ = some (.string y.dst) ∧ W.cell? ⟨w.heap.size + 1, 3, none⟩ = some (.int .i64 y.at_) ∧ W.cell? ⟨w.heap.size + 1, 4, none⟩ = some (.slice y.a1 y.old.length y.c1) ∧ W.cell? ⟨w.heap.size + 1, 5, none⟩ = some (.slice y.a2 y.new.length y.c2) ∧ W.cell? ⟨b1, f1 + i, none⟩ = some (.string sx) ∧ W.cell? ⟨b2, f2 + j, none⟩ = some (.string sy)) := fun W hW => ⟨(HXI.out.on hW).c0, (HXI.out.on hW).c1, (HXI.out.on hW).c2, (HXI.out.on hW).c3, (HXI.out.on hW).c4, (HXI.out.on hW).c5, (HYI.out.on hW).c0, (HYI.out.on hW).c1, (HYI.out.on hW).c2, (HYI.out.on hW).c3, (HYI.out.on hW).c4, (HYI.out.on hW).c5, cell_on k1 hW, cell_on k2 hW⟩
          have HDR : Hid (Below wr.heap.size wr wr.drew) := (Below.refl _ _).drew
          have u1 : (0 : Int) ≤ (i : Int) := by omega
          have u2 : (0 : Int) ≤ (j : Int) := by omega
          have u3 : (j : Int) < (ty.length : Int) := by omega
          have hi64 : i ≤ 2 := by omega
          have hj64 : j ≤ 2 := by omega
          clear dx dy hex hey hd1 hd2 k1 k2 HD HC
          go_wp2_with fail
          refine wp_region_noPanic ?_
          refine wp_region_held_drew (S := (fun w' => w'.cell? ⟨w.heap.size, 0, none⟩ = some (.int .i64 x.kind) ∧ w'.cell? ⟨w.heap.size, 1, none⟩ = some (.string x.p) ∧ w'.cell? ⟨w.heap.size, 2, none⟩ = some (.string x.dst) ∧ w'.cell? ⟨w.heap.size, 3, none⟩ = some (.int .i64 x.at_) ∧ w'.cell? ⟨w.heap.size, 4, none⟩ = some (.slice x.a1 x.old.length x.c1) ∧ w'.cell? ⟨w.heap.size, 5, none⟩ = some (.slice x.a2 x.new.length x.c2) ∧ w'.cell? ⟨w.heap.size + 1, 0, none⟩ = some (.int .i64 y.kind) ∧ w'.cell? ⟨w.heap.size + 1, 1, none⟩ = some (.string y.p) ∧ w'.cell? ⟨w.heap.size + 1, 2, none⟩ = some (.string y.dst) ∧ w'.cell? ⟨w.heap.size + 1, 3, none⟩ = some (.int .i64 y.at_) ∧ w'.cell? ⟨w.heap.size + 1, 4, none⟩ = some (.slice y.a1 y.old.length y.c1) ∧ w'.cell? ⟨w.heap.size + 1, 5, none⟩ = some (.slice y.a2 y.new.length y.c2) ∧ w'.cell? ⟨b1, f1 + i, none⟩ = some (.string sx) ∧ w'.cell? ⟨b2, f2 + j, none⟩ = some (.string sy))) (by kernel_rfl) (HKS.out _ HDR.out) (fun hHeld => ?_)
          refine wpAnyH_take (i := 0) (oi := { dst := some 25, op := _, type := _, pos := _, after := _, guard := _ }) (v := .agg #[.int .i64 x.kind, .string x.p, .string x.dst, .int .i64 x.at_, .slice x.a1 x.old.length x.c1, .slice x.a2 x.new.length x.c2]) rfl (by kernel_rfl) (by kernel_rfl) (by kernel_rfl) (fun _ _ _ h => h) (Or.inl ⟨by rfl, fun w' hSw => ?_⟩) (by assumption) ?_
          · ((try dsimp only at hSw); go_simp)
          try simp only [Act.put, List.setIfInBounds_toArray, List.set_cons_zero, List.set_cons_succ]
          refine wpAnyH_take (i := 1) (oi := { dst := some 26, op := _, type := _, pos := _, after := _, guard := _ }) (v := .slice (some ⟨b1, f1, none⟩) tx.length c1) rfl (by kernel_rfl) (by kernel_rfl) (by kernel_rfl) (fun _ _ _ h => h) (Or.inl ⟨by rfl, fun w' hSw => ?_⟩) (by assumption) ?_
          · ((try dsimp only at hSw); go_simp)
          try simp only [Act.put, List.setIfInBounds_toArray, List.set_cons_zero, List.set_cons_succ]
          refine wpAnyH_take (i := 2) (oi := { dst := some 27, op := _, type := _, pos := _, after := _, guard := _ }) (v := .int .i64 (i : Int)) rfl (by kernel_rfl) (by kernel_rfl) (by kernel_rfl) (fun _ _ _ h => h) (Or.inl ⟨by rfl, fun w' hSw => ?_⟩) (by assumption) ?_
          · ((try dsimp only at hSw); go_simp)
          try simp only [Act.put, List.setIfInBounds_toArray, List.set_cons_zero, List.set_cons_succ]
          refine wpAnyH_take (i := 3) (oi := { dst := some 28, op := _, type := _, pos := _, after := _, guard := _ }) (v := .pointer (some ⟨b1, f1 + i, none⟩)) rfl (by kernel_rfl) (by kernel_rfl) (by kernel_rfl) (fun _ _ _ h => h) (Or.inl ⟨by rfl, fun w' hSw => ?_⟩) (by assumption) ?_
          · ((try dsimp only at hSw); go_simp)
          try simp only [Act.put, List.setIfInBounds_toArray, List.set_cons_zero, List.set_cons_succ]
          refine wpAnyH_take (i := 4) (oi := { dst := some 29, op := _, type := _, pos := _, after := _, guard := _ }) (v := .string sx) rfl (by kernel_rfl) (by kernel_rfl) (by kernel_rfl) (fun _ _ _ h => h) (Or.inl ⟨by rfl, fun w' hSw => ?_⟩) (by assumption) ?_
          · ((try dsimp only at hSw); go_simp)
          try simp only [Act.put, List.setIfInBounds_toArray, List.set_cons_zero, List.set_cons_succ]
          refine wpAnyH_take (i := 5) (oi := { dst := some 30, op := _, type := _, pos := _, after := _, guard := _ }) (v := .slice (some ⟨b2, f2, none⟩) ty.length c2) rfl (by kernel_rfl) (by kernel_rfl) (by kernel_rfl) (fun _ _ _ h => h) (Or.inl ⟨by rfl, fun w' hSw => ?_⟩) (by assumption) ?_
          · ((try dsimp only at hSw); go_simp)
          try simp only [Act.put, List.setIfInBounds_toArray, List.set_cons_zero, List.set_cons_succ]
          refine wpAnyH_take (i := 6) (oi := { dst := some 31, op := _, type := _, pos := _, after := _, guard := _ }) (v := .int .i64 (j : Int)) rfl (by kernel_rfl) (by kernel_rfl) (by kernel_rfl) (fun _ _ _ h => h) (Or.inl ⟨by rfl, fun w' hSw => ?_⟩) (by assumption) ?_
          · ((try dsimp only at hSw); go_simp)
          try simp only [Act.put, List.setIfInBounds_toArray, List.set_cons_zero, List.set_cons_succ]
          refine wpAnyH_take (i := 7) (oi := { dst := some 32, op := _, type := _, pos := _, after := _, guard := _ }) (v := .pointer (some ⟨b2, f2 + j, none⟩)) rfl (by kernel_rfl) (by kernel_rfl) (by kernel_rfl) (fun _ _ _ h => h) (Or.inl ⟨by rfl, fun w' hSw => ?_⟩) (by assumption) ?_
          · ((try dsimp only at hSw); go_simp)
          try simp only [Act.put, List.setIfInBounds_toArray, List.set_cons_zero, List.set_cons_succ]
          refine wpAnyH_take (i := 8) (oi := { dst := some 33, op := _, type := _, pos := _, after := _, guard := _ }) (v := .string sy) rfl (by kernel_rfl) (by kernel_rfl) (by kernel_rfl) (fun _ _ _ h => h) (Or.inl ⟨by rfl, fun w' hSw => ?_⟩) (by assumption) ?_
          · ((try dsimp only at hSw); go_simp)
          try simp only [Act.put, List.setIfInBounds_toArray, List.set_cons_zero, List.set_cons_succ]
          refine wpAnyH_ready (rs := [9]) (by kernel_rfl) (by simp) ?_
          refine AllReadyH.cons rfl (fun K hK => ?_) AllReadyH.nil
          go_simp
          go_at_call 67
          refine (refnear_any x sx sy _ hsx hsy d1 HD1.out).mono ?_
          rintro e w7 ⟨rfl, hb7⟩
          have X7 := Lib.hid (HDR.out.trans (hb7.mono HDR.out.size))
          clear hb7
          refine hK.out _ _ (HKS.out _ (X7.out)) (fun hHeld9 => ?_)
          clear hK K hHeld
          try simp only [Act.put, List.setIfInBounds_toArray, List.set_cons_zero, List.set_cons_succ]
          cases d1
          · refine wpAnyH_take (i := 10) (oi := { dst := some 35, op := _, type := _, pos := _, after := _, guard := _ }) (v := .bool false) rfl (by kernel_rfl) (by kernel_rfl) (by kernel_rfl) (fun _ _ _ h => h) (Or.inl ⟨by rfl, fun w' hSw => ?_⟩) (by assumption) ?_
            · ((try dsimp only at hSw); go_simp)
            try simp only [Act.put, List.setIfInBounds_toArray, List.set_cons_zero, List.set_cons_succ]
            refine wpAnyH_take (i := 11) (oi := { dst := some 36, op := _, type := _, pos := _, after := _, guard := _ }) (v := .agg #[.int .i64 y.kind, .string y.p, .string y.dst, .int .i64 y.at_, .slice y.a1 y.old.length y.c1, .slice y.a2 y.new.length y.c2]) rfl (by kernel_rfl) (by kernel_rfl) (by kernel_rfl) (fun _ _ _ h => h) (Or.inl ⟨by rfl, fun w' hSw => ?_⟩) (by assumption) ?_
            · ((try dsimp only at hSw); go_simp)
            try simp only [Act.put, List.setIfInBounds_toArray, List.set_cons_zero, List.set_cons_succ]
            refine wpAnyH_take (i := 12) (oi := { dst := some 37, op := _, type := _, pos := _, after := _, guard := _ }) (v := .slice (some ⟨b2, f2, none⟩) ty.length c2) rfl (by kernel_rfl) (by kernel_rfl) (by kernel_rfl) (fun _ _ _ h => h) (Or.inl ⟨by rfl, fun w' hSw => ?_⟩) (by assumption) ?_
            · ((try dsimp only at hSw); go_simp)
            try simp only [Act.put, List.setIfInBounds_toArray, List.set_cons_zero, List.set_cons_succ]
            refine wpAnyH_take (i := 13) (oi := { dst := some 38, op := _, type := _, pos := _, after := _, guard := _ }) (v := .int .i64 (j : Int)) rfl (by kernel_rfl) (by kernel_rfl) (by kernel_rfl) (fun _ _ _ h => h) (Or.inl ⟨by rfl, fun w' hSw => ?_⟩) (by assumption) ?_
            · ((try dsimp only at hSw); go_simp)
            try simp only [Act.put, List.setIfInBounds_toArray, List.set_cons_zero, List.set_cons_succ]
            refine wpAnyH_take (i := 14) (oi := { dst := some 39, op := _, type := _, pos := _, after := _, guard := _ }) (v := .pointer (some ⟨b2, f2 + j, none⟩)) rfl (by kernel_rfl) (by kernel_rfl) (by kernel_rfl) (fun _ _ _ h => h) (Or.inl ⟨by rfl, fun w' hSw => ?_⟩) (by assumption) ?_
            · ((try dsimp only at hSw); go_simp)
            try simp only [Act.put, List.setIfInBounds_toArray, List.set_cons_zero, List.set_cons_succ]
            refine wpAnyH_take (i := 15) (oi := { dst := some 40, op := _, type := _, pos := _, after := _, guard := _ }) (v := .string sy) rfl (by kernel_rfl) (by kernel_rfl) (by kernel_rfl) (fun _ _ _ h => h) (Or.inl ⟨by rfl, fun w' hSw => ?_⟩) (by assumption) ?_
            · ((try dsimp only at hSw); go_simp)
            try simp only [Act.put, List.setIfInBounds_toArray, List.set_cons_zero, List.set_cons_succ]
            refine wpAnyH_take (i := 16) (oi := { dst := some 41, op := _, type := _, pos := _, after := _, guard := _ }) (v := .slice (some ⟨b1, f1, none⟩) tx.length c1) rfl (by kernel_rfl) (by kernel_rfl) (by kernel_rfl) (fun _ _ _ h => h) (Or.inl ⟨by rfl, fun w' hSw => ?_⟩) (by assumption) ?_
            · ((try dsimp only at hSw); go_simp)
            try simp only [Act.put, List.setIfInBounds_toArray, List.set_cons_zero, List.set_cons_succ]
            refine wpAnyH_take (i := 17) (oi := { dst := some 42, op := _, type := _, pos := _, after := _, guard := _ }) (v := .int .i64 (i : Int)) rfl (by kernel_rfl) (by kernel_rfl) (by kernel_rfl) (fun _ _ _ h => h) (Or.inl ⟨by rfl, fun w' hSw => ?_⟩) (by assumption) ?_
            · ((try dsimp only at hSw); go_simp)
            try simp only [Act.put, List.setIfInBounds_toArray, List.set_cons_zero, List.set_cons_succ]
            refine wpAnyH_take (i := 18) (oi := { dst := some 43, op := _, type := _, pos := _, after := _, guard := _ }) (v := .pointer (some ⟨b1, f1 + i, none⟩)) rfl (by kernel_rfl) (by kernel_rfl) (by kernel_rfl) (fun _ _ _ h => h) (Or.inl ⟨by rfl, fun w' hSw => ?_⟩) (by assumption) ?_
            · ((try dsimp only at hSw); go_simp)
            try simp only [Act.put, List.setIfInBounds_toArray, List.set_cons_zero, List.set_cons_succ]
            refine wpAnyH_take (i := 19) (oi := { dst := some 44, op := _, type := _, pos := _, after := _, guard := _ }) (v := .string sx) rfl (by kernel_rfl) (by kernel_rfl) (by kernel_rfl) (fun _ _ _ h => h) (Or.inl ⟨by rfl, fun w' hSw => ?_⟩) (by assumption) ?_
            · ((try dsimp only at hSw); go_simp)
            try simp only [Act.put, List.setIfInBounds_toArray, List.set_cons_zero, List.set_cons_succ]
            refine wpAnyH_ready (rs := [20]) (by kernel_rfl) (by simp) ?_
            refine AllReadyH.cons rfl (fun K hK => ?_) AllReadyH.nil
            go_simp
            go_at_call 67
            refine (refnear_any y sy sx _ hsy hsx d2 HD2.out).mono ?_
            rintro e w8 ⟨rfl, hb8⟩
            have X8 := Lib.hid (X7.out.trans (hb8.mono X7.out.size))
            clear hb8
            refine hK.out _ _ (HKS.out _ (X8.out)) (fun hHeld20 => ?_)
            clear hK K hHeld9
            try simp only [Act.put, List.setIfInBounds_toArray, List.set_cons_zero, List.set_cons_succ]
            refine wpAnyH_take (i := 21) (oi := { dst := some 46, op := _, type := _, pos := _, after := _, guard := _ }) (v := .bool d2) rfl (by kernel_rfl) (by kernel_rfl) (by kernel_rfl) (fun _ _ _ h => h) (Or.inl ⟨by rfl, fun w' hSw => ?_⟩) (by assumption) ?_
            · ((try dsimp only at hSw); go_simp)
            try simp only [Act.put, List.setIfInBounds_toArray, List.set_cons_zero, List.set_cons_succ]
            refine wpAnyH_done (by kernel_rfl) ?_ _
            refine NoPanic.normal ?_
            have HB := Lib.hid (HI.out.trans (X8.out.mono HI.out.size))
            cases d2
            · have HE := Lib.hid (HE.out rfl rfl)
              clear HN HKS HDR X7 X8 HXI HYI hHeld20
              go_wp2
              go_roundw
              case rel => exact ⟨j + 1, by go_num, by omega, HE.out, HB.out⟩
              case measure => simp [intOf]; omega
            · have hf := HN.out (by simp)
              subst hf
              have HF := Lib.hid (HA.out.trans (HB.out.mono HA.out.size))
              clear HN HKS HDR X7 X8 HXI HYI HE hHeld20
              go_wp2
              go_ret
              exact ⟨rfl, HF.out⟩
          · refine wpAnyH_take (i := 10) (oi := { dst := some 35, op := _, type := _, pos := _, after := _, guard := _ }) (v := .bool true) rfl (by kernel_rfl) (by kernel_rfl) (by kernel_rfl) (fun _ _ _ h => h) (Or.inl ⟨by rfl, fun w' hSw => ?_⟩) (by assumption) ?_
            · ((try dsimp only at hSw); go_simp)
            try simp only [Act.put, List.setIfInBounds_toArray, List.set_cons_zero, List.set_cons_succ]
            refine wpAnyH_take (i := 11) (oi := { dst := some 36, op := _, type := _, pos := _, after := _, guard := _ }) (v := undef) rfl (by kernel_rfl) (by kernel_rfl) (by kernel_rfl) (fun _ _ _ h => h) (Or.inr ⟨by rfl, rfl⟩) (by assumption) ?_
            try simp only [Act.put, List.setIfInBounds_toArray, List.set_cons_zero, List.set_cons_succ]
            refine wpAnyH_take (i := 12) (oi := { dst := some 37, op := _, type := _, pos := _, after := _, guard := _ }) (v := undef) rfl (by kernel_rfl) (by kernel_rfl) (by kernel_rfl) (fun _ _ _ h => h) (Or.inr ⟨by rfl, rfl⟩) (by assumption) ?_
            try simp only [Act.put, List.setIfInBounds_toArray, List.set_cons_zero, List.set_cons_succ]
            refine wpAnyH_take (i := 13) (oi := { dst := some 38, op := _, type := _, pos := _, after := _, guard := _ }) (v := undef) rfl (by kernel_rfl) (by kernel_rfl) (by kernel_rfl) (fun _ _ _ h => h) (Or.inr ⟨by rfl, rfl⟩) (by assumption) ?_
            try simp only [Act.put, List.setIfInBounds_toArray, List.set_cons_zero, List.set_cons_succ]
            refine wpAnyH_take (i := 14) (oi := { dst := some 39, op := _, type := _, pos := _, after := _, guard := _ }) (v := undef) rfl (by kernel_rfl) (by kernel_rfl) (by kernel_rfl) (fun _ _ _ h => h) (Or.inr ⟨by rfl, rfl⟩) (by assumption) ?_
            try simp only [Act.put, List.setIfInBounds_toArray, List.set_cons_zero, List.set_cons_succ]
            refine wpAnyH_take (i := 15) (oi := { dst := some 40, op := _, type := _, pos := _, after := _, guard := _ }) (v := undef) rfl (by kernel_rfl) (by kernel_rfl) (by kernel_rfl) (fun _ _ _ h => h) (Or.inr ⟨by rfl, rfl⟩) (by assumption) ?_
            try simp only [Act.put, List.setIfInBounds_toArray, List.set_cons_zero, List.set_cons_succ]
            refine wpAnyH_take (i := 16) (oi := { dst := some 41, op := _, type := _, pos := _, after := _, guard := _ }) (v := undef) rfl (by kernel_rfl) (by kernel_rfl) (by kernel_rfl) (fun _ _ _ h => h) (Or.inr ⟨by rfl, rfl⟩) (by assumption) ?_
            try simp only [Act.put, List.setIfInBounds_toArray, List.set_cons_zero, List.set_cons_succ]
            refine wpAnyH_take (i := 17) (oi := { dst := some 42, op := _, type := _, pos := _, after := _, guard := _ }) (v := undef) rfl (by kernel_rfl) (by kernel_rfl) (by kernel_rfl) (fun _ _ _ h => h) (Or.inr ⟨by rfl, rfl⟩) (by assumption) ?_
            try simp only [Act.put, List.setIfInBounds_toArray, List.set_cons_zero, List.set_cons_succ]
            refine wpAnyH_take (i := 18) (oi := { dst := some 43, op := _, type := _, pos := _, after := _, guard := _ }) (v := undef) rfl (by kernel_rfl) (by kernel_rfl) (by kernel_rfl) (fun _ _ _ h => h) (Or.inr ⟨by rfl, rfl⟩) (by assumption) ?_
            try simp only [Act.put, List.setIfInBounds_toArray, List.set_cons_zero, List.set_cons_succ]
            refine wpAnyH_take (i := 19) (oi := { dst := some 44, op := _, type := _, pos := _, after := _, guard := _ }) (v := undef) rfl (by kernel_rfl) (by kernel_rfl) (by kernel_rfl) (fun _ _ _ h => h) (Or.inr ⟨by rfl, rfl⟩) (by assumption) ?_
            try simp only [Act.put, List.setIfInBounds_toArray, List.set_cons_zero, List.set_cons_succ]
            refine wpAnyH_take (i := 20) (oi := { dst := some 45, op := _, type := _, pos := _, after := _, guard := _ }) (v := undef) rfl (by kernel_rfl) (by kernel_rfl) (by kernel_rfl) (fun _ _ _ h => h) (Or.inr ⟨by rfl, rfl⟩) (by assumption) ?_
            try simp only [Act.put, List.setIfInBounds_toArray, List.set_cons_zero, List.set_cons_succ]
            refine wpAnyH_take (i := 21) (oi := { dst := some 46, op := _, type := _, pos := _, after := _, guard := _ }) (v := .bool true) rfl (by kernel_rfl) (by kernel_rfl) (by kernel_rfl) (fun _ _ _ h => h) (Or.inl ⟨by rfl, fun w' hSw => ?_⟩) (by assumption) ?_
            · ((try dsimp only at hSw); go_simp)
            try simp only [Act.put, List.setIfInBounds_toArray, List.set_cons_zero, List.set_cons_succ]
            refine wpAnyH_done (by kernel_rfl) ?_ _
            refine NoPanic.normal ?_
            have hf := HN.out (by simp)
            subst hf
            have HF := Lib.hid (HA.out.trans ((HI.out.trans (X7.out.mono HI.out.size)).mono HA.out.size))
            clear HN HKS HDR X7 HXI HYI HE hHeld9
            go_wp2
            go_ret
            exact ⟨rfl, HF.out⟩
        · have hjn : ¬ (j : Int) < (ty.length : Int) := by omega
          have HE : Hid (∀ a b (ha : a < tx.length) (hb : b < ty.length), a < i + 1 → nearP x.key tx[a] ty[b] = false ∧ nearP y.key ty[b] tx[a] = false) := by
            intro a b ha hb hai
            by_cases he : a = i
            · subst he
              exact HD.out b hb (by omega)
            · exact HC.out a b ha hb (by omega)
          have hi64 : i ≤ 2 := by omega
          clear HD HC
          go_wp2
          go_roundw
          case rel => exact ⟨i + 1, by go_num, by omega, HE.out, HI.out⟩
          case measure => simp [intOf]; omega
    · have hin : ¬ (i : Int) < (tx.length : Int) := by omega
      have hf := HYES.out (fun a b ha hb => HC.out a b ha hb (by omega))
      subst hf
      have HF := Lib.hid (HA.out.trans (HI.out.mono HA.out.size))
      have l1 : (0 : Int) < (tx.length : Int) := by omega
      have l2 : (0 : Int) < (ty.length : Int) := by omega
      clear HC HI hi hlt
      go_wp2
      go_ret
      exact ⟨rfl, HF.out⟩
end Go.Proofs.YtalabahjfmcnbaaGreatDoor
