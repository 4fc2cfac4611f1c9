/- The reference's Set of ids. make of a row of records. Package ident's Row. -/
import Derived.Deep.CutRange
import Derived.Deep.RegionHeld3
import Derived.Laws.MakeOwn
import Derived.Test.YtoajckhfnadhjaaGreatDoorCk07
namespace Go.Proofs.YtoajckhfnadhjaaGreatDoor
open Go.RowKit
set_option linter.unusedVariables false

theorem ikeys_app (a b : List Im) : ikeys (a ++ b) = ikeys a ++ ikeys b := by simp [ikeys]
theorem ikeys_take (a : List Im) (k : Nat) : ikeys (a.take k) = (ikeys a).take k := by simp [ikeys, List.map_take]
theorem ikeys_drop (a : List Im) (k : Nat) : ikeys (a.drop k) = (ikeys a).drop k := by simp [ikeys, List.map_drop]
theorem id_row (w : World) (x : Im) : idR.Row (w.alloc (.cells #[.string x.p, .int .i64 x.n] 40)) (w.heap.size + 1) (some ⟨w.heap.size, 0, none⟩) [x] := by
  have h := (id_box w x).2.row
  have e : (w.alloc (.cells #[.string x.p, .int .i64 x.n] 40)).heap.size = w.heap.size + 1 := by simp
  rw [e] at h
  exact h
set_option maxHeartbeats 4000000 in
set_option maxRecDepth 100000 in
theorem refiset_any (A : Option Addr) (l : List Im) (cap : Nat) (w : World) (hs : Ids w w.heap.size A l) (hn : l.length ≤ 100000) :
    Calls Tryz.prog 21 #[.slice A l.length cap] w (IdsLeft w (setI (ikeys l))) := by
  have HS := Lib.hid hs
  clear hs
  go_enter Tryz.func21, Tryz.ntmps21
  go_wp2
  go_loopw [3, 4, 5, 6] (fun v iv _ _ wr => ∃ (k : Nat) (A3 : Option Addr) (n3 c3 : Nat) (os : List Im), v = .slice A3 n3 c3 ∧ iv = .int .i64 (k : Int) ∧ k ≤ l.length ∧ os.length ≤ k ∧ Hid (n3 = os.length) ∧ Hid (ikeys os = setI (ikeys (l.take k)) ∧ OwnId wr w.heap.size (.slice A3 n3 c3) os ∧ Below w.heap.size w wr)) (fun _ iv _ _ _ => l.length - (intOf iv).toNat)
  case atStart => exact ⟨0, none, 0, 0, [], rfl, rfl, Nat.zero_le _, Nat.le_refl _, rfl, rfl, Rk.Own.nil _ _, Below.refl _ _⟩
  case round =>
    obtain ⟨k, A3, n3, c3, os, rfl, rfl, hk, hol, hn3, HI⟩ := hrel
    by_cases hlt : k < l.length
    · have hS := HS.out.on HI.out.2.2
      obtain ⟨g, off, rfl, hg, c0, c1⟩ := ids_get hS hlt
      have CH := Lib.hid (refihas_any A3 os c3 l[k] wr HI.out.2.1.parts.2.1 (by omega))
      rw [← hn3.out] at CH
      have hset : Hid (setI (ikeys (l.take (k + 1))) = insI l[k].key (ikeys os)) := by
        show _ = _
        rw [ikeys_take_succ l k hlt, setI_snoc, HI.out.1]
      have hrise : Hid (RiseI (ikeys os)) := by
        show RiseI _
        rw [HI.out.1]
        exact rise_setI _
      generalize l[k] = x at *
      clear hS
      unfold Im.val at CH
      by_cases hin : x ∈ os
      · rw [decide_eq_true hin] at CH
        have hnew : Hid (ikeys os = setI (ikeys (l.take (k + 1)))) := by
          show _ = _
          rw [hset.out, insI_in hrise.out (mem_ikeys.2 hin)]
        clear hset hrise hin
        go_wp2_with fail
        refine CH.out.mono ?_
        rintro e w1 ⟨rfl, hb⟩
        have HI2 : Hid (ikeys os = setI (ikeys (l.take (k + 1))) ∧ OwnId w1 w.heap.size (.slice A3 n3 c3) os ∧ Below w.heap.size w w1) := ⟨hnew.out, HI.out.2.1.kept hb, HI.out.2.2.trans (hb.mono HI.out.2.2.size)⟩
        clear hb CH HI hnew
        go_wp2
        go_roundw
        case rel => exact ⟨k + 1, A3, n3, c3, os, rfl, by go_num, by omega, by omega, hn3, HI2⟩
        case measure => simp [intOf]; omega
      · rw [decide_eq_false hin] at CH
        have hnx : Hid (x.key ∉ ikeys os) := fun h => hin (mem_ikeys.1 h)
        clear hin
        go_wp2_with fail
        refine CH.out.mono ?_
        rintro e w1 ⟨rfl, hb⟩
        have HI2 : Hid (OwnId w1 w.heap.size (.slice A3 n3 c3) os ∧ Below w.heap.size w w1) := ⟨HI.out.2.1.kept hb, HI.out.2.2.trans (hb.mono HI.out.2.2.size)⟩
        have HG : Hid (∀ W, Below w1.heap.size w1 W → W.cell? ⟨g, off + k * 2, none⟩ = some (.string x.p) ∧ W.cell? ⟨g, off + k * 2 + 1, none⟩ = some (.int .i64 x.n)) := fun W hW => by
          have h := hb.trans (hW.mono hb.size)
          exact ⟨(h.cell (p := ⟨g, _, none⟩) hg).trans c0, (h.cell (p := ⟨g, _, none⟩) hg).trans c1⟩
        have HI3 : Hid (Below w1.heap.size w1 w1) := Below.refl _ _
        clear hb CH HI c0 c1 hg
        -- @P1
        go_wp2
        go_loopw [5] (fun jv wi => ∃ j : Nat, j ≤ os.length ∧ jv = .int .i64 (j : Int) ∧ Hid (∀ t (h : t < os.length), t < j → ltI os[t].key x.key) ∧ Hid (Below w1.heap.size w1 wi)) (fun jv _ => os.length - (intOf jv).toNat)
        case atStart => exact ⟨0, Nat.zero_le _, rfl, fun t _ h => absurd h (by omega), HI3.out⟩
        case round =>
          clear HI3
          obtain ⟨j, hj, rfl, hless, HJ⟩ := hrel
          go_upto_region 7 with (fail)
          go_cut [33] from 19 to 35 (fun bv wx => ∃ bb : Bool, bv = .bool bb ∧ Hid ((bb = true ↔ ∃ h : j < os.length, ltI os[j].key x.key) ∧ Below w1.heap.size w1 wx))
          case first =>
            clear hset hrise hnx hless
            by_cases hjl : j < os.length
            · -- @P2
              have hO := HI2.out.1.kept HJ.out
              obtain ⟨b, o, rfl, _, d0, d1⟩ := ids_get hO.parts.2.1 hjl
              obtain ⟨d2, d3⟩ := HG.out _ HJ.out
              have hiff : Hid ((decide (ltI os[j].key x.key) = true) ↔ ∃ h : j < os.length, ltI os[j].key x.key) := by
                show _ ↔ _
                rw [decide_eq_true_eq]
                exact ⟨fun h => ⟨hjl, h⟩, fun ⟨_, h⟩ => h⟩
              generalize hy : os[j] = y at *
              have hdr : Below w1.heap.size w1 wr.drew := HJ.out.trans (((Below.refl _ wr).drew).mono HJ.out.size)
              have HDR := Lib.hid hdr
              have CL := Lib.hid (refiless_any y x wr.drew)
              have HKS : Hid (wr.drew.cell? ⟨b, o + j * 2, none⟩ = some (.string y.p) ∧ wr.drew.cell? ⟨b, o + j * 2 + 1, none⟩ = some (.int .i64 y.n) ∧ wr.drew.cell? ⟨g, off + k * 2, none⟩ = some (.string x.p) ∧ wr.drew.cell? ⟨g, off + k * 2 + 1, none⟩ = some (.int .i64 x.n)) := ⟨d0, d1, d2, d3⟩
              have HKW : Hid (∀ W, Below wr.drew.heap.size wr.drew W → W.cell? ⟨b, o + j * 2, none⟩ = some (.string y.p) ∧ W.cell? ⟨b, o + j * 2 + 1, none⟩ = some (.int .i64 y.n) ∧ W.cell? ⟨g, off + k * 2, none⟩ = some (.string x.p) ∧ W.cell? ⟨g, off + k * 2 + 1, none⟩ = some (.int .i64 x.n)) := fun W hW =>
                ⟨cell_on HKS.out.1 hW, cell_on HKS.out.2.1 hW, cell_on HKS.out.2.2.1 hW, cell_on HKS.out.2.2.2 hW⟩
              have u1 : (0 : Int) ≤ (j : Int) := by omega
              have u2 : (j : Int) < (n3 : Int) := by have := hn3.out; omega
              have u3 : (0 : Int) ≤ (k : Int) := by omega
              have u4 : (k : Int) < (l.length : Int) := by omega
              unfold Im.val at CL
              clear hO d0 d1 d2 d3 hdr hy hj hol
              refine wp_region_noPanic ?_
              refine wp_region_held_drew (S := (fun w' => w'.cell? ⟨b, o + j * 2, none⟩ = some (.string y.p) ∧ w'.cell? ⟨b, o + j * 2 + 1, none⟩ = some (.int .i64 y.n) ∧ w'.cell? ⟨g, off + k * 2, none⟩ = some (.string x.p) ∧ w'.cell? ⟨g, off + k * 2 + 1, none⟩ = some (.int .i64 x.n))) (by kernel_rfl) HKS.out (fun hHeld => ?_)
              refine wpAnyH_take (i := 0) (oi := { dst := some 19, op := _, type := _, pos := _, after := _, guard := _ }) (v := .int .i64 (j : Int)) rfl (by kernel_rfl) (by kernel_rfl) (by kernel_rfl) (fun _ _ _ h => h) (Or.inl ⟨by rfl, fun w' hSw => ?_⟩) (by assumption) ?_
              · ((try dsimp only at hSw); go_simp)
              try simp only [Act.put, List.setIfInBounds_toArray, List.set_cons_zero, List.set_cons_succ]
              refine wpAnyH_take (i := 1) (oi := { dst := some 20, op := _, type := _, pos := _, after := _, guard := _ }) (v := .slice (some ⟨b, o, none⟩) n3 c3) rfl (by kernel_rfl) (by kernel_rfl) (by kernel_rfl) (fun _ _ _ h => h) (Or.inl ⟨by rfl, fun w' hSw => ?_⟩) (by assumption) ?_
              · ((try dsimp only at hSw); go_simp)
              try simp only [Act.put, List.setIfInBounds_toArray, List.set_cons_zero, List.set_cons_succ]
              refine wpAnyH_take (i := 2) (oi := { dst := some 21, op := _, type := _, pos := _, after := _, guard := _ }) (v := .int .i64 (n3 : Int)) rfl (by kernel_rfl) (by kernel_rfl) (by kernel_rfl) (fun _ _ _ h => h) (Or.inl ⟨by rfl, fun w' hSw => ?_⟩) (by assumption) ?_
              · ((try dsimp only at hSw); go_simp)
              try simp only [Act.put, List.setIfInBounds_toArray, List.set_cons_zero, List.set_cons_succ]
              refine wpAnyH_take (i := 3) (oi := { dst := some 22, op := _, type := _, pos := _, after := _, guard := _ }) (v := .bool true) rfl (by kernel_rfl) (by kernel_rfl) (by kernel_rfl) (fun _ _ _ h => h) (Or.inl ⟨by rfl, fun w' hSw => ?_⟩) (by assumption) ?_
              · ((try dsimp only at hSw); go_simp)
              try simp only [Act.put, List.setIfInBounds_toArray, List.set_cons_zero, List.set_cons_succ]
              refine wpAnyH_take (i := 4) (oi := { dst := some 23, op := _, type := _, pos := _, after := _, guard := _ }) (v := .bool true) rfl (by kernel_rfl) (by kernel_rfl) (by kernel_rfl) (fun _ _ _ h => h) (Or.inl ⟨by rfl, fun w' hSw => ?_⟩) (by assumption) ?_
              · ((try dsimp only at hSw); go_simp)
              try simp only [Act.put, List.setIfInBounds_toArray, List.set_cons_zero, List.set_cons_succ]
              refine wpAnyH_take (i := 5) (oi := { dst := some 24, op := _, type := _, pos := _, after := _, guard := _ }) (v := .slice (some ⟨b, o, none⟩) n3 c3) rfl (by kernel_rfl) (by kernel_rfl) (by kernel_rfl) (fun _ _ _ h => h) (Or.inl ⟨by rfl, fun w' hSw => ?_⟩) (by assumption) ?_
              · ((try dsimp only at hSw); go_simp)
              try simp only [Act.put, List.setIfInBounds_toArray, List.set_cons_zero, List.set_cons_succ]
              refine wpAnyH_take (i := 6) (oi := { dst := some 25, op := _, type := _, pos := _, after := _, guard := _ }) (v := .int .i64 (j : Int)) rfl (by kernel_rfl) (by kernel_rfl) (by kernel_rfl) (fun _ _ _ h => h) (Or.inl ⟨by rfl, fun w' hSw => ?_⟩) (by assumption) ?_
              · ((try dsimp only at hSw); go_simp)
              try simp only [Act.put, List.setIfInBounds_toArray, List.set_cons_zero, List.set_cons_succ]
              refine wpAnyH_take (i := 7) (oi := { dst := some 26, op := _, type := _, pos := _, after := _, guard := _ }) (v := .pointer (some ⟨b, o + j * 2, none⟩)) rfl (by kernel_rfl) (by kernel_rfl) (by kernel_rfl) (fun _ _ _ h => h) (Or.inl ⟨by rfl, fun w' hSw => ?_⟩) (by assumption) ?_
              · ((try dsimp only at hSw); go_simp)
              try simp only [Act.put, List.setIfInBounds_toArray, List.set_cons_zero, List.set_cons_succ]
              refine wpAnyH_take (i := 8) (oi := { dst := some 27, op := _, type := _, pos := _, after := _, guard := _ }) (v := .agg #[.string y.p, .int .i64 y.n]) rfl (by kernel_rfl) (by kernel_rfl) (by kernel_rfl) (fun _ _ _ h => h) (Or.inl ⟨by rfl, fun w' hSw => ?_⟩) (by assumption) ?_
              · ((try dsimp only at hSw); go_simp)
              try simp only [Act.put, List.setIfInBounds_toArray, List.set_cons_zero, List.set_cons_succ]
              refine wpAnyH_take (i := 9) (oi := { dst := some 28, op := _, type := _, pos := _, after := _, guard := _ }) (v := .slice (some ⟨g, off, none⟩) l.length cap) rfl (by kernel_rfl) (by kernel_rfl) (by kernel_rfl) (fun _ _ _ h => h) (Or.inl ⟨by rfl, fun w' hSw => ?_⟩) (by assumption) ?_
              · ((try dsimp only at hSw); go_simp)
              try simp only [Act.put, List.setIfInBounds_toArray, List.set_cons_zero, List.set_cons_succ]
              refine wpAnyH_take (i := 10) (oi := { dst := some 29, op := _, type := _, pos := _, after := _, guard := _ }) (v := .int .i64 (k : Int)) rfl (by kernel_rfl) (by kernel_rfl) (by kernel_rfl) (fun _ _ _ h => h) (Or.inl ⟨by rfl, fun w' hSw => ?_⟩) (by assumption) ?_
              · ((try dsimp only at hSw); go_simp)
              try simp only [Act.put, List.setIfInBounds_toArray, List.set_cons_zero, List.set_cons_succ]
              refine wpAnyH_take (i := 11) (oi := { dst := some 30, op := _, type := _, pos := _, after := _, guard := _ }) (v := .pointer (some ⟨g, off + k * 2, none⟩)) rfl (by kernel_rfl) (by kernel_rfl) (by kernel_rfl) (fun _ _ _ h => h) (Or.inl ⟨by rfl, fun w' hSw => ?_⟩) (by assumption) ?_
              · ((try dsimp only at hSw); go_simp)
              try simp only [Act.put, List.setIfInBounds_toArray, List.set_cons_zero, List.set_cons_succ]
              refine wpAnyH_take (i := 12) (oi := { dst := some 31, op := _, type := _, pos := _, after := _, guard := _ }) (v := .agg #[.string x.p, .int .i64 x.n]) rfl (by kernel_rfl) (by kernel_rfl) (by kernel_rfl) (fun _ _ _ h => h) (Or.inl ⟨by rfl, fun w' hSw => ?_⟩) (by assumption) ?_
              · ((try dsimp only at hSw); go_simp)
              try simp only [Act.put, List.setIfInBounds_toArray, List.set_cons_zero, List.set_cons_succ]
              refine wpAnyH_ready (rs := [13]) (by kernel_rfl) (by simp) ?_
              refine AllReadyH.cons rfl (fun K hK => ?_) AllReadyH.nil
              go_simp
              go_at_call 55
              refine (CL.out.mono ?_)
              rintro e wl ⟨rfl, hbl⟩
              have HBL := Lib.hid (HDR.out.trans (hbl.mono HDR.out.size))
              have HKL := Lib.hid (HKW.out _ hbl)
              clear hbl
              refine hK.out _ _ (HKL.out) (fun hHeld13 => ?_)
              clear hK K hHeld
              try simp only [Act.put, List.setIfInBounds_toArray, List.set_cons_zero, List.set_cons_succ]
              refine wpAnyH_take (i := 14) (oi := { dst := some 33, op := _, type := _, pos := _, after := _, guard := _ }) (v := .bool (decide (ltI y.key x.key))) rfl (by kernel_rfl) (by kernel_rfl) (by kernel_rfl) (fun _ _ _ h => h) (Or.inl ⟨by rfl, fun w' hSw => ?_⟩) (by assumption) ?_
              · ((try dsimp only at hSw); go_simp)
              try simp only [Act.put, List.setIfInBounds_toArray, List.set_cons_zero, List.set_cons_succ]
              refine wpAnyH_done (by kernel_rfl) ?_ _
              refine NoPanic.normal ?_
              go_wp2_with fail
              go_meet
              case rel => exact ⟨_, rfl, hiff.out, HBL.out⟩
            · -- @P3
              have q1 : ¬ (j : Int) < (n3 : Int) := by have := hn3.out; omega
              have q2 : ¬ j < n3 := by have := hn3.out; omega
              have q3 : decide ((j : Int) < (n3 : Int)) = false := by simpa using q2
              have hq : ∀ q, Hid (Below w1.heap.size w1 (wr.drewN q)) := fun q => below_drewN HJ.out q
              clear HJ
              go_quiet (fail)
              go_wp2_with fail
              go_meet
              case rel => exact ⟨false, rfl, ⟨(fun h => by cases h), fun ⟨h, _⟩ => absurd h hjl⟩, (hq _).out⟩
          case rest =>
            obtain ⟨bb, rfl, HQ⟩ := hcut
            cases bb
            · -- @P4
              have hfin : Hid (setI (ikeys (l.take (k + 1))) = ikeys (os.take j ++ x :: os.drop j)) := by
                show _ = _
                rw [hset.out, insI_new (k := j) (by rw [ikeys_len]; exact hj) ?_ ?_ hnx.out]
                · rw [ikeys_app, ikeys_take]
                  show _ = _ ++ x.key :: ikeys (os.drop j)
                  rw [ikeys_drop]
                · intro t ht htj
                  rw [ikeys_get]
                  exact hless.out t (by rw [ikeys_len] at ht; exact ht) htj
                · intro h hc
                  rw [ikeys_get] at hc
                  exact absurd (HQ.out.1.2 ⟨by rw [ikeys_len] at h; exact h, hc⟩) (by simp)
              have hO := HI2.out.1.kept HQ.out.2
              obtain ⟨-, hrow, hroom, hmx, hadr⟩ := hO.parts
              obtain ⟨A5, c5, fd5, hf5, hr5, hm5, _, hp5⟩ := idR.part A3 os c3 0 j hroom hadr (Nat.zero_le _) hj
              obtain ⟨A6, c6, fd6, hf6, hr6, hm6, _, hp6⟩ := idR.part A3 os c3 j os.length hroom hadr hj (Nat.le_refl _)
              have e5 : fd5 = os.take j := by rw [hf5]; simp
              have e6 : fd6 = os.drop j := by rw [hf6, List.take_of_length_le (by rw [List.length_drop]; omega)]
              have P5 : ∀ w, (Instr.slice 38 (.slice A3 n3 c3) none (some (.int .i64 (j : Int))) none).run Tryz.prog w = .ok (.slice A5 fd5.length c5) w := fun w => by
                rw [hn3.out]
                exact hp5 none (some (.int .i64 (j : Int))) w (.inr ⟨rfl, rfl⟩) (.inl rfl)
              have P6 : ∀ w, (Instr.slice 38 (.slice A3 n3 c3) (some (.int .i64 (j : Int))) none none).run Tryz.prog w = .ok (.slice A6 fd6.length c6) w := fun w => by
                rw [hn3.out]
                exact hp6 (some (.int .i64 (j : Int))) none w (.inl rfl) (.inr ⟨rfl, rfl⟩)
              have HR5 := Lib.hid (hr5 _ _ hrow)
              have HR6 := Lib.hid (hr6 _ _ hrow)
              have HM5 := Lib.hid hm5.1
              have HM6 := Lib.hid hm6.1
              have HXG := Lib.hid (HG.out _ HQ.out.2)
              have HB0 := Lib.hid HQ.out.2
              have hw1 := Lib.hid HI2.out.2
              have HE : Hid (fd5 ++ x :: fd6 = os.take j ++ x :: os.drop j) := by show _ = _; rw [e5, e6]
              have HL5 : Hid (fd5.length ≤ os.length) := by show _ ≤ _; rw [e5, List.length_take]; omega
              have HL6 : Hid (fd6.length ≤ os.length) := by show _ ≤ _; rw [e6, List.length_drop]; omega
              clear hO hrow hroom hmx hadr hf5 hr5 hm5 hp5 hf6 hr6 hm6 hp6 e5 e6 HQ HI2 HG hset hrise hnx hless HJ
              generalize wc = wq at *
              have HW0 := Lib.hid (Rk.Own.made (R := idR) wq wq.heap.size (Nat.le_refl _))
              have hal : Below wq.heap.size wq (wq.alloc (.cells #[] 40)) := (Below.refl _ _).alloc (Nat.le_refl _) _
              have HAL := Lib.hid hal
              have HR5a := Lib.hid (HR5.out.on hal)
              obtain ⟨M5, hM5⟩ : ∃ M, M = ([] : List Im).length + fd5.length := ⟨_, rfl⟩
              have HMM5 := Lib.hid hM5
              clear hal hM5 HR5
              -- @P5
              go_wp2_with (at_builtin; refine Rk.wpList_append idR rfl _ _ rfl wq.heap.size (.slice (some ⟨wq.heap.size, 0, none⟩) 0 0) [] fd5 rfl HW0.out A5 c5 fd5.length rfl rfl HM5.out HR5a.out HAL.out.size (by have := HL5.out; simp only [List.length_nil]; omega) M5 HMM5.out ?_)
              intro A7 c7 w7 ho7 hg7
              have hb7 := Rk.Own.app HAL.out HW0.out hg7 (Nat.le_refl _)
              have HB7 := Lib.hid hb7
              replace ho7 : OwnId w7 wq.heap.size (.slice A7 M5 c7) fd5 := ho7
              have HO7 := Lib.hid ho7
              obtain ⟨d2, d3⟩ := HXG.out
              have d4 := cell_on d2 hb7
              have d5 := cell_on d3 hb7
              obtain ⟨hbx, hx8⟩ := id_box w7 x
              have HBX := Lib.hid hbx
              have HO8 := Lib.hid (ho7.kept hbx)
              have HX8 := Lib.hid (id_row w7 x)
              obtain ⟨M6, hM6⟩ : ∃ M, M = fd5.length + [x].length := ⟨_, rfl⟩
              have HMM6 := Lib.hid hM6
              have u3 : (0 : Int) ≤ (k : Int) := by omega
              have u4 : (k : Int) < (l.length : Int) := by omega
              clear ho7 hg7 hb7 HW0 HAL HR5a HM5 hbx hx8 hM6 d2 d3
              -- @P6
              go_wp2_with (at_builtin; refine Rk.wpList_append idR rfl _ _ rfl wq.heap.size (.slice A7 M5 c7) fd5 [x] rfl HO8.out (some ⟨w7.heap.size, 0, none⟩) 1 1 rfl rfl (fun e => by cases e) HX8.out (Nat.le_trans HB7.out.size HBX.out.size) (by have := HL5.out; simp only [List.length_cons, List.length_nil]; omega) M6 HMM6.out ?_)
              intro A8 c8 w8 ho8 hg8
              have hb8 := Rk.Own.app (HB7.out.trans (HBX.out.mono HB7.out.size)) HO8.out hg8 (Nat.le_refl _)
              have HB8 := Lib.hid hb8
              have HO9 := Lib.hid ho8
              have HR6a := Lib.hid (HR6.out.on hb8)
              obtain ⟨M7, hM7⟩ : ∃ M, M = (fd5 ++ [x]).length + fd6.length := ⟨_, rfl⟩
              have HMM7 := Lib.hid hM7
              clear ho8 hg8 hb8 HO7 HO8 HX8 HBX HB7 HR6 hM7 d4 d5
              -- @P7
              go_wp2_with (at_builtin; refine Rk.wpList_append idR rfl _ _ rfl wq.heap.size (.slice A8 M6 c8) (fd5 ++ [x]) fd6 rfl HO9.out A6 c6 fd6.length rfl rfl HM6.out HR6a.out HB8.out.size (by have h5 := HL5.out; have h6 := HL6.out; simp only [List.length_append, List.length_cons, List.length_nil]; omega) M7 HMM7.out ?_)
              intro A9 c9 w9 ho9 hg9
              have hb9 := Rk.Own.app HB8.out HO9.out hg9 (Nat.le_refl _)
              have hbz := hw1.out.trans ((HB0.out.trans (hb9.mono HB0.out.size)).mono hw1.out.size)
              rw [HE.out] at ho9
              have hlen9 : (os.take j ++ x :: os.drop j).length = os.length + 1 := by simp only [List.length_append, List.length_take, List.length_cons, List.length_drop]; omega
              have hM : M7 = (os.take j ++ x :: os.drop j).length := by rw [HMM7.out, ← HE.out]; simp only [List.length_append, List.length_cons, List.length_nil]; omega
              have HF : Hid (ikeys (os.take j ++ x :: os.drop j) = setI (ikeys (l.take (k + 1))) ∧ OwnId w9 w.heap.size (.slice A9 M7 c9) (os.take j ++ x :: os.drop j) ∧ Below w.heap.size w w9) := ⟨hfin.out.symm, Rk.Own.lower ho9 (Nat.le_trans hw1.out.size HB0.out.size), hbz⟩
              have HM : Hid (M7 = (os.take j ++ x :: os.drop j).length) := hM
              have HN : Hid ((os.take j ++ x :: os.drop j).length ≤ k + 1) := by show _ ≤ _; omega
              clear ho9 hg9 hb9 hbz hlen9 hM HO9 HB8 HR6a HM6 HMM7 HMM6 HMM5 hfin HE HL5 HL6 P5 P6
              generalize os.take j ++ x :: os.drop j = oz at *
              go_wp2
              go_roundw
              case rel =>
                first
                | exact ⟨k + 1, A9, M7, c9, oz, rfl, by go_num, by omega, HN.out, HM.out, HF⟩
                | ((repeat apply Exists.intro); exact ⟨⟨rfl, by go_num, by omega, HN.out, HM.out, HF⟩, rfl⟩)
              case measure => simp [intOf]; omega
            · -- @P8
              obtain ⟨hjl, hl2⟩ := HQ.out.1.1 rfl
              have hless2 : Hid (∀ t (h : t < os.length), t < j + 1 → ltI os[t].key x.key) := fun t ht htj => by
                by_cases h : t = j
                · subst h; exact hl2
                · exact hless.out t ht (by omega)
              have HJ2 := Lib.hid HQ.out.2
              clear HQ hless HJ hl2
              go_wp2
              go_roundw
              case rel =>
                first
                | exact ⟨j + 1, by omega, by go_num, hless2, HJ2⟩
                | ((repeat apply Exists.intro); exact ⟨⟨by omega, by go_num, hless2, HJ2⟩, rfl⟩)
              case measure => simp [intOf]; omega
    · -- @P9
      obtain rfl : k = l.length := by omega
      have hfin : Hid (IdsLeft w (setI (ikeys l)) (.returned (.slice A3 n3 c3)) wr) := ⟨A3, n3, c3, os, rfl, by rw [HI.out.1, List.take_length], HI.out.2.1, HI.out.2.2⟩
      clear HI
      go_wp2
      go_ret
      exact hfin.out
end Go.Proofs.YtoajckhfnadhjaaGreatDoor
namespace Go.Proofs.YtoajckhfnadhjaaGreatDoor
open Go.RowKit
set_option linter.unusedVariables false

namespace Rk
variable {α : Type}
theorem cells_rep (R : Rk α) (z : α) (n i : Nat) (hi : i < n * R.k) : (R.cells (List.replicate n z))[i]? = (R.enc z)[i % R.k]? := by
  obtain ⟨j, r, hj, hr, rfl⟩ := R.at_place (List.replicate n z) (by simpa using hi)
  rw [R.cells_get _ j hj r hr, List.getElem_replicate, Nat.add_comm, Nat.add_mul_mod_self_right, Nat.mod_eq_of_lt hr]
theorem make_ (R : Rk α) (z : α) (hz : R.zero.cells.toList = R.enc z) (W : World) (n : Nat) (hn : n ≤ 100000) :
    ∃ cs, (Instr.makeSlice R.tys (.int .i64 (n : Int)) (.int .i64 (n : Int))).run Tryz.prog W = .ok (.slice (some ⟨W.heap.size, 0, none⟩) n n) (W.alloc (.cells cs R.ty)) ∧ R.Blk (W.alloc (.cells cs R.ty)) W.heap.size n (List.replicate n z) := by
  obtain ⟨i0, hi, hz0, hz1, hz2⟩ := R.info_of
  have hb := R.small
  have hr := run_make (P := Tryz.prog) W R.tys R.ty i0 _ R.und hi hz0 .i64 .i64 n n (by omega) (Int.le_refl _) (by rw [hz2]; exact Int.le_trans (Int.mul_le_mul (by omega) (Int.le_refl _) (by omega) (by omega)) (show (1000 : Int) * (n : Int) ≤ _ by omega)) (by omega)
  simp only [Int.toNat_natCast] at hr
  rw [hz1] at hr
  refine ⟨_, hr, ⟨⟨_, heap_alloc_new W _, ?_, ?_⟩, by simp, by unfold maxLen; omega⟩⟩
  · rw [size_madeCells]
  · rw [List.length_replicate]
    refine List.ext_getElem? fun i => ?_
    by_cases h : i < n * R.k
    · rw [List.getElem?_take, if_pos h, Array.getElem?_toList, R.cells_rep z n i h, ← hz]
      have hm : i % R.k < R.zero.cells.size := by rw [R.zsz]; exact Nat.mod_lt _ R.pos
      unfold madeCells
      rw [Array.getElem?_map, Array.getElem?_range, if_pos h, Option.map_some, R.zsz, getElem!_pos R.zero.cells (i % R.k) hm, Array.getElem?_toList, Array.getElem?_eq_getElem hm]
    · rw [List.getElem?_take, if_neg h, List.getElem?_eq_none (by rw [R.cells_len]; simpa using h)]
end Rk
end Go.Proofs.YtoajckhfnadhjaaGreatDoor
namespace Go.Proofs.YtoajckhfnadhjaaGreatDoor
open Go.RowKit
set_option linter.unusedVariables false

/-- A row of ids as far as it is made: the first k. -/
def partI (p : ByteArray) (first : Int) (n k : Nat) : List Im := (List.range n).map fun (i : Nat) => if i < k then ⟨p, IntKind.i64.wrap (first + (i : Int))⟩ else ⟨⟨#[]⟩, 0⟩
theorem partI_len (p : ByteArray) (first : Int) (n k : Nat) : (partI p first n k).length = n := by simp [partI]
theorem partI_zero (p : ByteArray) (first : Int) (n : Nat) : partI p first n 0 = List.replicate n ⟨⟨#[]⟩, 0⟩ := by
  refine List.ext_getElem (by simp [partI]) fun i h1 h2 => ?_
  simp [partI]
theorem partI_step (p : ByteArray) (first : Int) (n k : Nat) (hk : k < n) : (partI p first n k).set k ⟨p, IntKind.i64.wrap (first + (k : Int))⟩ = partI p first n (k + 1) := by
  refine List.ext_getElem (by simp [partI]) fun i h1 h2 => ?_
  rw [List.getElem_set]
  simp only [partI, List.getElem_map, List.getElem_range]
  by_cases e : k = i
  · subst e
    rw [if_pos rfl, if_pos (by omega)]
  · rw [if_neg e]
    by_cases h : i < k
    · rw [if_pos h, if_pos (by omega)]
    · rw [if_neg h, if_neg (by omega)]
theorem partI_end (p : ByteArray) (first : Int) (n : Nat) (h0 : 0 ≤ first) (h1 : first ≤ 1099511627776) (hn : 1 ≤ n) (hn2 : n ≤ 2000) : ikeys (partI p first n n) = rowI p.data.toList first (n : Int) := by
  unfold rowI ikeys
  rw [if_pos ⟨h0, by omega, by omega⟩, Int.toNat_natCast]
  refine List.ext_getElem (by simp [partI]) fun i h2 h3 => ?_
  have hi : i < n := by simpa [partI] using h2
  simp only [partI, List.getElem_map, List.getElem_range, if_pos hi, Im.key]
  rw [IntWalk.i64_in _ (by omega)]
set_option maxHeartbeats 2000000 in
set_option maxRecDepth 100000 in
theorem idrow_none (p : ByteArray) (first n : Int) (w : World) (h : ¬ (0 ≤ first ∧ 1 ≤ n ∧ n ≤ 2000)) :
    Calls Tryz.prog 76 #[.string p, .int .i64 first, .int .i64 n] w (IdsLeft w (rowI p.data.toList first n)) := by
  have hr : rowI p.data.toList first n = [] := by unfold rowI; rw [if_neg h]
  rw [hr]
  have HF : Hid (∀ k, IdsLeft w [] (.returned (.slice none 0 0)) (w.drewN k)) := fun k => ⟨none, 0, 0, [], rfl, rfl, Rk.Own.nil _ _, below_drewN (Below.refl _ _) k⟩
  have HF0 : Hid (IdsLeft w [] (.returned (.slice none 0 0)) w) := ⟨none, 0, 0, [], rfl, rfl, Rk.Own.nil _ _, Below.refl _ _⟩
  clear hr
  by_cases h1 : first < 0
  · go_enter Tryz.func76, Tryz.ntmps76
    clear h
    go_wp2
    go_ret
    exact HF0.out
  by_cases h2 : n < 1
  · go_enter Tryz.func76, Tryz.ntmps76
    clear h
    go_wp2
    go_ret
    exact HF0.out
  have h3 : n > 2000 := by omega
  clear h
  go_enter Tryz.func76, Tryz.ntmps76
  go_wp2
  go_ret
  exact HF0.out
set_option maxHeartbeats 2000000 in
set_option maxRecDepth 100000 in
theorem idrow_any (p : ByteArray) (first n : Int) (w : World) (hf : first ≤ 1099511627776) :
    Calls Tryz.prog 76 #[.string p, .int .i64 first, .int .i64 n] w (IdsLeft w (rowI p.data.toList first n)) := by
  by_cases h : ¬ (0 ≤ first ∧ 1 ≤ n ∧ n ≤ 2000)
  · exact idrow_none p first n w h
  obtain ⟨h0, h1, h2⟩ := Decidable.not_not.1 h
  obtain ⟨m, rfl⟩ : ∃ m : Nat, n = (m : Int) := ⟨n.toNat, by omega⟩
  have hm : m ≤ 2000 := by omega
  have hm1 : 1 ≤ m := by omega
  have HE := Lib.hid (partI_end p first m h0 hf hm1 hm)
  have HST := Lib.hid (fun k hk => partI_step p first m k hk)
  have q1 : ¬ first < 0 := by omega
  have q2 : ¬ (m : Int) < 1 := by omega
  have q3 : ¬ (m : Int) > 2000 := by omega
  have q4 : ¬ (2000 : Int) < (m : Int) := by omega
  obtain ⟨cs, hmk, hblk⟩ := idR.make_ ⟨⟨#[]⟩, 0⟩ rfl w m (by omega)
  have hmk2 : (Instr.makeSlice 38 (.int .i64 (m : Int)) (.int .i64 (m : Int))).run Tryz.prog w = .ok (.slice (some ⟨w.heap.size, 0, none⟩) m m) (w.alloc (.cells cs 40)) := hmk
  rw [← partI_zero p first m] at hblk
  have HB : Hid (idR.Blk (w.alloc (.cells cs 40)) w.heap.size m (partI p first m 0)) := hblk
  have HG : Hid (Below w.heap.size w (w.alloc (.cells cs 40))) := (Below.refl _ _).alloc (Nat.le_refl _) _
  clear h hblk hmk h1 h2
  go_enter Tryz.func76, Tryz.ntmps76
  go_wp2
  generalize (w.alloc (.cells cs 40)) = wa at *
  go_loopw [23] (fun i wr => ∃ k : Nat, k ≤ m ∧ i = .int .i64 (k : Int) ∧ Hid (idR.Blk wr w.heap.size m (partI p first m k)) ∧ Hid (Below w.heap.size w wr)) (fun i _ => m - (intOf i).toNat)
  case atStart => exact ⟨0, Nat.zero_le _, rfl, HB.out, HG.out⟩
  case round =>
    clear HB HG
    obtain ⟨k, hk, rfl, hB, hG⟩ := hrel
    by_cases hlt : k < m
    · have hkl : k < (partI p first m k).length := by rw [partI_len]; exact hlt
      have e0 : (partI p first m k)[k] = ⟨⟨#[]⟩, 0⟩ := by simp [partI]
      have c0 : wr.cell? ⟨w.heap.size, k * 2, none⟩ = some (.string ⟨#[]⟩) := hB.out.cell hkl (r := 0) (by rw [e0]; rfl)
      have c1 : wr.cell? ⟨w.heap.size, k * 2 + 1, none⟩ = some (.int .i64 0) := hB.out.cell hkl (r := 1) (by rw [e0]; rfl)
      have f0 := hB.out.fz (k * 2)
      have f1 := hB.out.fz (k * 2 + 1)
      have hput : idR.Blk ((wr.setCell ⟨w.heap.size, k * 2, none⟩ (.string p)).setCell ⟨w.heap.size, k * 2 + 1, none⟩ (.int .i64 (IntKind.i64.wrap (first + (k : Int))))) w.heap.size m (partI p first m (k + 1)) := by
        rw [← HST.out k hlt]
        exact hB.out.put hkl ⟨p, IntKind.i64.wrap (first + (k : Int))⟩
      have HP := Lib.hid hput
      have HB2 : Hid (Below w.heap.size w ((wr.setCell ⟨w.heap.size, k * 2, none⟩ (.string p)).setCell ⟨w.heap.size, k * 2 + 1, none⟩ (.int .i64 (IntKind.i64.wrap (first + (k : Int)))))) :=
        hG.out.grown (Rk.setCells_grown wr w.heap.size (k * 2) [.string p, .int .i64 (IntKind.i64.wrap (first + (k : Int)))]) hG.out.size fun j hj => by simp only [Option.some.injEq] at hj; omega
      have u0 : (0 : Int) ≤ (k : Int) := by omega
      have u1 : (k : Int) < (m : Int) := by omega
      clear hput e0 hkl hB hG
      generalize hv : IntKind.i64.wrap (first + (k : Int)) = v at *
      go_wp2
      go_roundw
      case rel => exact ⟨k + 1, by omega, by go_num, HP.out, HB2.out⟩
      case measure => simp [intOf]; omega
    · obtain rfl : k = m := by omega
      have HF : Hid (IdsLeft w (rowI p.data.toList first (k : Int)) (.returned (.slice (some ⟨w.heap.size, 0, none⟩) k k)) wr) := by
        have h := hB.out.own (Nat.le_refl _)
        rw [partI_len] at h
        exact ⟨_, _, _, _, rfl, HE.out, h, hG.out⟩
      clear hB hG HE
      go_wp2
      go_ret
      exact HF.out
end Go.Proofs.YtoajckhfnadhjaaGreatDoor
