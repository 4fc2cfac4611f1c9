
/- The law IdentSets, over package ident's calls. -/
import Derived.Test.YthenlajknoddcaaGreatDoorIdTextsLaw
import Derived.Test.YthenlajknoddcaaGreatDoorRefName
import Derived.Test.YthenlajknoddcaaGreatDoorSame
import Derived.Deep.CutRange
namespace Go.Proofs.YthenlajknoddcaaGreatDoor
open Go.RowKit
set_option linter.unusedVariables false

theorem refset_l11 (A : Option Addr) (ls : List (List UInt8)) (n c : Nat) (w : World) (hn : n = ls.length) (hs : Strs w w.heap.size A (toBs ls)) (hl : ls.length ≤ 100000) : Calls Tryz.prog 17 #[.slice A n c] w (RowLeft w (setS ls)) := by
  have e : (toBs ls).length = ls.length := by simp [toBs]
  subst hn
  rw [← e]
  have h := refset_any A (toBs ls) c w hs (by rw [e]; exact hl)
  rw [lists_toBs] at h
  exact h.mono fun e w' h => own_row h
theorem refsame_l11 (A A2 : Option Addr) (ls : List (List UInt8)) (c c2 : Nat) (w : World) (hs : Strs w w.heap.size A (toBs ls)) (ht : Strs w w.heap.size A2 (toBs ls)) (hl : ls.length ≤ 100000) :
    Calls Tryz.prog 15 #[.slice A ls.length c, .slice A2 ls.length c2] w fun e w' => e = .returned (.bool true) ∧ Below w.heap.size w w' := by
  have e : (toBs ls).length = ls.length := by simp [toBs]
  rw [← e]
  have h := same_q A A2 (toBs ls) (toBs ls) c c2 w hs ht (by rw [e]; omega) (by rw [e]; omega)
  rw [show decide (toBs ls = toBs ls) = true from decide_eq_true rfl] at h
  exact h.mono fun e w' ⟨h, q, hq⟩ => ⟨h, by rw [hq]; exact below_drewN (Below.refl _ _) q⟩
theorem sets_le (l : List (List UInt8)) : (setS l).length ≤ l.length := by
  suffices h : ∀ (l a : List (List UInt8)), (l.foldl (fun a x => ins x a) a).length ≤ l.length + a.length by simpa [setS] using h l []
  intro l
  induction l with
  | nil => simp
  | cons x r ih =>
    intro a
    have h1 := ih (ins x a)
    have h2 : (ins x a).length ≤ a.length + 1 := by
      clear h1 ih
      induction a with
      | nil => simp [ins]
      | cons y s ih2 =>
        unfold ins
        split
        · simp; omega
        · split <;> simp
    simp only [List.foldl_cons, List.length_cons]
    omega
set_option maxHeartbeats 4000000 in
set_option maxRecDepth 100000 in
theorem identsets_any (A : Option Addr) (la : List Im) (c : Nat) (A2 : Option Addr) (lb : List Im) (c2 : Nat) (x : Im) (w : World) (C : IdC w) (h0 : Ids w w.heap.size A la) (m0 : la.length ≤ 9223372036854775807) (r0 : Room A la.length c) (h1 : Ids w w.heap.size A2 lb) (m1 : lb.length ≤ 9223372036854775807) (r1 : Room A2 lb.length c2) (ox : x.Ok) :
    Calls Tryz.prog 3 #[.slice A la.length c, .slice A2 lb.length c2, x.val] w fun e w' => e = .returned (.bool true) ∧ Below w.heap.size w w' := by
  obtain ⟨hb0, hx0⟩ := id_box w x
  have HB0 := Lib.hid hb0
  have HX0 := Lib.hid hx0
  have HA0 := Lib.hid (h0.on hb0)
  have HL0 := Lib.hid (h1.on hb0)
  have HR0 := Lib.hid r0
  have HR9 := Lib.hid r1
  unfold Im.val
  clear hb0 hx0 h0 h1 r0 r1
  cases k0 : lightI la
  · skip
    go_enter Tryz.func3, Tryz.ntmps3
    go_wp2_with fail
    generalize (w.alloc (.cells #[.string x.p, .int .i64 x.n] 24)) = w1 at *
    refine (idlight_any A la c _ HA0.out m0).mono ?_
    rw [k0]
    rintro e wl ⟨rfl, rfl⟩
    go_wp2_with fail
    refine (idawake_any C _ HB0.out).mono ?_
    rintro e wz ⟨rfl, hb⟩
    have HB := Lib.hid (HB0.out.trans (hb.mono HB0.out.size))
    clear hb
    go_wp2
    go_ret
    exact ⟨rfl, HB.out⟩
  cases k1 : lightI lb
  · skip
    go_enter Tryz.func3, Tryz.ntmps3
    go_wp2_with fail
    generalize (w.alloc (.cells #[.string x.p, .int .i64 x.n] 24)) = w1 at *
    refine (idlight_any A la c _ HA0.out m0).mono ?_
    rw [k0]
    rintro e wl ⟨rfl, rfl⟩
    go_wp2_with fail
    refine (idlight_any A2 lb c2 _ HL0.out m1).mono ?_
    rw [k1]
    rintro e wl ⟨rfl, rfl⟩
    go_wp2_with fail
    refine (idawake_any C _ HB0.out).mono ?_
    rintro e wz ⟨rfl, hb⟩
    have HB := Lib.hid (HB0.out.trans (hb.mono HB0.out.size))
    clear hb
    go_wp2
    go_ret
    exact ⟨rfl, HB.out⟩
  go_enter Tryz.func3, Tryz.ntmps3
  go_wp2_with fail
  generalize (w.alloc (.cells #[.string x.p, .int .i64 x.n] 24)) = w1 at *
  refine (idlight_any A la c _ HA0.out m0).mono ?_
  rw [k0]
  rintro e wl ⟨rfl, rfl⟩
  go_wp2_with fail
  refine (idlight_any A2 lb c2 _ HL0.out m1).mono ?_
  rw [k1]
  rintro e wl ⟨rfl, rfl⟩
  have FA := Lib.hid (lightI_facts k0)
  have FB := Lib.hid (lightI_facts k1)
  have hla := FA.out.2
  have hlb := FB.out.2
  generalize hgx : w.heap.size = gx at HX0
  clear k0 k1 hgx m0 m1
  have HI0 : Hid (Below w1.heap.size w1 w1) := Below.refl _ _
  have HO0 : Hid (OwnS w1 w1.heap.size (.slice none 0 0) []) := OwnS.nil _ _
  -- @P1
  go_wp2_with fail
  go_loopw [7, 8] (fun v iv wr => ∃ (k : Nat) (A7 : Option Addr) (n7 c7 : Nat) (ls : List (List UInt8)), v = .slice A7 n7 c7 ∧ iv = .int .i64 (k : Int) ∧ k ≤ la.length ∧ ls.length ≤ k ∧ Hid (ls = patL (la.take k) ∧ n7 = ls.length ∧ OwnS wr w1.heap.size (.slice A7 n7 c7) ls ∧ Strs wr wr.heap.size A7 (toBs ls) ∧ Below w1.heap.size w1 wr)) (fun _ iv _ => la.length - (intOf iv).toNat)
  case atStart => exact ⟨0, none, 0, 0, [], rfl, rfl, Nat.zero_le _, Nat.le_refl _, rfl, rfl, HO0.out, Strs.none_, HI0.out⟩
  case round =>
    clear HI0 HO0
    obtain ⟨k, A7, n7, c7, ls, rfl, rfl, hk, hll, HI⟩ := hrel
    by_cases hlt : k < la.length
    · obtain ⟨g, off, rfl, hg, d0, d1⟩ := ids_get (HA0.out.on HI.out.2.2.2.2) hlt
      have hps := patL_succ la k hlt
      generalize la[k] = y at *
      by_cases hy : y.p = ⟨#[]⟩
      · rw [if_pos hy, List.append_nil] at hps
        rw [hy] at d0
        have HJ : Hid (ls = patL (la.take (k + 1)) ∧ n7 = ls.length ∧ OwnS wr w1.heap.size (.slice A7 n7 c7) ls ∧ Strs wr wr.heap.size A7 (toBs ls) ∧ Below w1.heap.size w1 wr) := ⟨by rw [hps]; exact HI.out.1, HI.out.2⟩
        clear hps HI hy d1
        go_wp2
        go_roundw
        case rel => exact ⟨k + 1, A7, n7, c7, ls, rfl, by go_num, by omega, by omega, HJ⟩
        case measure => simp [intOf]; omega
      · rw [if_neg hy] at hps
        have n1 := str_ne_empty hy
        have HPS := Lib.hid hps
        have hal : Below w1.heap.size w1 (wr.alloc (.cells #[.string y.p] 9)) := HI.out.2.2.2.2.alloc HI.out.2.2.2.2.size _
        have HAL := Lib.hid hal
        have HO := Lib.hid (World.ownsRow.alloc HI.out.2.2.1 (.cells #[.string y.p] 9))
        have HS1 := Lib.hid (strs_one wr y.p)
        have HLS := Lib.hid HI.out.1
        obtain ⟨M, hM⟩ : ∃ M, M = ls.length + [y.p.data.toList].length := ⟨_, rfl⟩
        have HM := Lib.hid hM
        have hn7 := HI.out.2.1
        rw [show Value.slice A7 n7 c7 = Value.slice A7 n7 c7 from rfl] at HO
        clear hps hy d1 hal hM HI hn7
        -- @P2
        go_wp2_with (at_builtin; refine wpList_append_row rfl _ _ rfl w1.heap.size (.slice A7 n7 c7) ls [y.p.data.toList] rfl HO.out (some ⟨wr.heap.size, 0, none⟩) 1 1 rfl rfl (fun e => by cases e) HS1.out HAL.out.size (by simp only [List.length_cons, List.length_nil]; omega) M HM.out ?_)
        intro A8 c8 w8 ho8 hst hg8
        have HJ : Hid (ls ++ [y.p.data.toList] = patL (la.take (k + 1)) ∧ M = (ls ++ [y.p.data.toList]).length ∧ OwnS w8 w1.heap.size (.slice A8 M c8) (ls ++ [y.p.data.toList]) ∧ Strs w8 w8.heap.size A8 (toBs (ls ++ [y.p.data.toList])) ∧ Below w1.heap.size w1 w8) :=
          ⟨by rw [HPS.out, ← HLS.out], by rw [HM.out, List.length_append], ho8, hst, below_append HAL.out HO.out hg8 (Nat.le_refl _)⟩
        have HN : Hid ((ls ++ [y.p.data.toList]).length ≤ k + 1) := by show _ ≤ _; simp only [List.length_append, List.length_cons, List.length_nil]; omega
        clear ho8 hst hg8 HPS HLS HM HO HS1 HAL n1 d0
        generalize ls ++ [y.p.data.toList] = lz at *
        go_wp2
        go_roundw
        case rel => exact ⟨k + 1, A8, M, c8, lz, rfl, by go_num, by omega, HN.out, HJ⟩
        case measure => simp [intOf]; omega
    · obtain rfl : k = la.length := by omega
      have hls : ls = patL la := by
        have h9 := HI.out.1
        rw [List.take_length] at h9
        exact h9
      have HST := Lib.hid HI.out.2.2.2.1
      have HN7 := Lib.hid HI.out.2.1
      have hbi := HI.out.2.2.2.2
      have HA1 := Lib.hid (HA0.out.on hbi)
      have HL1 := Lib.hid (HL0.out.on hbi)
      have HX1 := Lib.hid (HX0.out.on hbi)
      have HB1 := Lib.hid (HB0.out.trans (hbi.mono HB0.out.size))
      subst hls
      clear HI hk hlt hbi hll HA0 HL0 HX0 HB0
      have HI1 : Hid (Below wr.heap.size wr wr) := Below.refl _ _
      have hps : setS (patL la) = patchesI (ikeys la) := patL_set la
      have hpl := patL_len la
      generalize patL la = ps at *
      have HPS := Lib.hid hps
      have HPL : Hid (ps.length ≤ 40) := Nat.le_trans hpl hla
      clear hps hpl
      -- @P3
      go_upto_region 9 with (fail)
      go_cut [9] from 10 (fun bv wx => bv = .bool true ∧ Hid (Below wr.heap.size wr wx))
      case first =>
        by_cases hz : la.length = 0
        · have k1 : ((la.length : Int) == 0) = true := by simp [hz]
          have k2 : (la.length == 0) = true := by simp [hz]
          have hq : ∀ q, Hid (Below wr.heap.size wr (wr.drewN q)) := fun q => below_drewN (Below.refl _ _) q
          have k3 : (la.length : Int) = 0 := by omega
          clear hz HA1 HL1 HX1 HB1 HST HN7 FA FB hla hlb
          -- @Q1
          go_quiet (fail)
          go_wp2_with fail
          go_meet
          case rel => exact ⟨rfl, (hq _).out⟩
        · -- @Q2
          have hz0 : 0 < la.length := by omega
          obtain ⟨b, off, rfl, _, d0, d1⟩ := ids_get HA1.out hz0
          simp only [Nat.zero_mul, Nat.add_zero] at d0 d1
          have x0 := id_c0 HX1.out
          have x1 := id_c1 HX1.out
          generalize la[0] = y at *
          have HKS : Hid (∀ W, Below wr.heap.size wr W → W.cell? ⟨b, off, none⟩ = some (.string y.p) ∧ W.cell? ⟨b, off + 1, none⟩ = some (.int .i64 y.n) ∧ W.cell? ⟨gx, 0, none⟩ = some (.string x.p) ∧ W.cell? ⟨gx, 1, none⟩ = some (.int .i64 x.n)) := fun W hW => ⟨cell_on d0 hW, cell_on d1 hW, cell_on x0 hW, cell_on x1 hW⟩
          have HDR : Hid (Below wr.heap.size wr wr.drew) := (Below.refl _ _).drew
          have HR1 : Hid (∀ W, Below wr.heap.size wr W → Calls Tryz.prog 6 #[.agg #[.string y.p, .int .i64 y.n], .agg #[.string x.p, .int .i64 x.n]] W fun e w' => e = .returned (.bool (decide (ltI y.key x.key))) ∧ Below W.heap.size W w') := fun W _ => C.less y x W
          have HR2 : Hid (∀ W, Below wr.heap.size wr W → Calls Tryz.prog 7 #[.agg #[.string y.p, .int .i64 y.n], .agg #[.string x.p, .int .i64 x.n]] W fun e w' => e = .returned (.bool (decide (ltI y.key x.key))) ∧ Below W.heap.size W w') := fun W _ => refiless_any y x W
          have u1 : (0 : Int) < (la.length : Int) := by omega
          have u2 : ((la.length : Int) == 0) = false := beq_eq_false_iff_ne.2 (by omega)
          clear d0 d1 x0 x1 hz HA1 HL1 HX1 HB1 HST HN7 FA FB hla hlb
          generalize decide (ltI y.key x.key) = bb at *
          refine wp_region_noPanic ?_
          refine wp_region_held_drew (S := (fun w' => w'.cell? ⟨b, off, none⟩ = some (.string y.p) ∧ w'.cell? ⟨b, off + 1, none⟩ = some (.int .i64 y.n) ∧ w'.cell? ⟨gx, 0, none⟩ = some (.string x.p) ∧ w'.cell? ⟨gx, 1, none⟩ = some (.int .i64 x.n))) (by kernel_rfl) (HKS.out _ HDR.out) (fun hHeld => ?_)
          refine wpAnyH_take (i := 0) (oi := { dst := some 39, op := _, type := _, pos := _, after := _, guard := _ }) (v := .slice (some ⟨b, off, none⟩) la.length c) rfl (by kernel_rfl) (by kernel_rfl) (by kernel_rfl) (fun _ _ _ h => h) (Or.inl ⟨by rfl, fun w' hSw => ?_⟩) (by assumption) ?_
          · ((try dsimp only at hSw); go_simp)
          try simp only [Act.put, List.setIfInBounds_toArray, List.set_cons_zero, List.set_cons_succ]
          refine wpAnyH_take (i := 1) (oi := { dst := some 40, op := _, type := _, pos := _, after := _, guard := _ }) (v := .int .i64 (la.length : Int)) rfl (by kernel_rfl) (by kernel_rfl) (by kernel_rfl) (fun _ _ _ h => h) (Or.inl ⟨by rfl, fun w' hSw => ?_⟩) (by assumption) ?_
          · ((try dsimp only at hSw); go_simp)
          try simp only [Act.put, List.setIfInBounds_toArray, List.set_cons_zero, List.set_cons_succ]
          refine wpAnyH_take (i := 2) (oi := { dst := some 41, op := _, type := _, pos := _, after := _, guard := _ }) (v := .bool false) rfl (by kernel_rfl) (by kernel_rfl) (by kernel_rfl) (fun _ _ _ h => h) (Or.inl ⟨by rfl, fun w' hSw => ?_⟩) (by assumption) ?_
          · ((try dsimp only at hSw); go_simp)
          try simp only [Act.put, List.setIfInBounds_toArray, List.set_cons_zero, List.set_cons_succ]
          refine wpAnyH_take (i := 3) (oi := { dst := some 42, op := _, type := _, pos := _, after := _, guard := _ }) (v := .bool false) rfl (by kernel_rfl) (by kernel_rfl) (by kernel_rfl) (fun _ _ _ h => h) (Or.inl ⟨by rfl, fun w' hSw => ?_⟩) (by assumption) ?_
          · ((try dsimp only at hSw); go_simp)
          try simp only [Act.put, List.setIfInBounds_toArray, List.set_cons_zero, List.set_cons_succ]
          refine wpAnyH_take (i := 4) (oi := { dst := some 43, op := _, type := _, pos := _, after := _, guard := _ }) (v := .slice (some ⟨b, off, none⟩) la.length c) rfl (by kernel_rfl) (by kernel_rfl) (by kernel_rfl) (fun _ _ _ h => h) (Or.inl ⟨by rfl, fun w' hSw => ?_⟩) (by assumption) ?_
          · ((try dsimp only at hSw); go_simp)
          try simp only [Act.put, List.setIfInBounds_toArray, List.set_cons_zero, List.set_cons_succ]
          refine wpAnyH_take (i := 5) (oi := { dst := some 44, op := _, type := _, pos := _, after := _, guard := _ }) (v := .pointer (some ⟨b, off, none⟩)) rfl (by kernel_rfl) (by kernel_rfl) (by kernel_rfl) (fun _ _ _ h => h) (Or.inl ⟨by rfl, fun w' hSw => ?_⟩) (by assumption) ?_
          · ((try dsimp only at hSw); go_simp)
          try simp only [Act.put, List.setIfInBounds_toArray, List.set_cons_zero, List.set_cons_succ]
          refine wpAnyH_take (i := 6) (oi := { dst := some 45, op := _, type := _, pos := _, after := _, guard := _ }) (v := .agg #[.string y.p, .int .i64 y.n]) rfl (by kernel_rfl) (by kernel_rfl) (by kernel_rfl) (fun _ _ _ h => h) (Or.inl ⟨by rfl, fun w' hSw => ?_⟩) (by assumption) ?_
          · ((try dsimp only at hSw); go_simp)
          try simp only [Act.put, List.setIfInBounds_toArray, List.set_cons_zero, List.set_cons_succ]
          refine wpAnyH_take (i := 7) (oi := { dst := some 46, op := _, type := _, pos := _, after := _, guard := _ }) (v := .agg #[.string x.p, .int .i64 x.n]) rfl (by kernel_rfl) (by kernel_rfl) (by kernel_rfl) (fun _ _ _ h => h) (Or.inl ⟨by rfl, fun w' hSw => ?_⟩) (by assumption) ?_
          · ((try dsimp only at hSw); go_simp)
          try simp only [Act.put, List.setIfInBounds_toArray, List.set_cons_zero, List.set_cons_succ]
          refine wpAnyH_take (i := 9) (oi := { dst := some 48, op := _, type := _, pos := _, after := _, guard := _ }) (v := .slice (some ⟨b, off, none⟩) la.length c) rfl (by kernel_rfl) (by kernel_rfl) (by kernel_rfl) (fun _ _ _ h => h) (Or.inl ⟨by rfl, fun w' hSw => ?_⟩) (by assumption) ?_
          · ((try dsimp only at hSw); go_simp)
          try simp only [Act.put, List.setIfInBounds_toArray, List.set_cons_zero, List.set_cons_succ]
          refine wpAnyH_take (i := 10) (oi := { dst := some 49, op := _, type := _, pos := _, after := _, guard := _ }) (v := .pointer (some ⟨b, off, none⟩)) rfl (by kernel_rfl) (by kernel_rfl) (by kernel_rfl) (fun _ _ _ h => h) (Or.inl ⟨by rfl, fun w' hSw => ?_⟩) (by assumption) ?_
          · ((try dsimp only at hSw); go_simp)
          try simp only [Act.put, List.setIfInBounds_toArray, List.set_cons_zero, List.set_cons_succ]
          refine wpAnyH_take (i := 11) (oi := { dst := some 50, op := _, type := _, pos := _, after := _, guard := _ }) (v := .agg #[.string y.p, .int .i64 y.n]) rfl (by kernel_rfl) (by kernel_rfl) (by kernel_rfl) (fun _ _ _ h => h) (Or.inl ⟨by rfl, fun w' hSw => ?_⟩) (by assumption) ?_
          · ((try dsimp only at hSw); go_simp)
          try simp only [Act.put, List.setIfInBounds_toArray, List.set_cons_zero, List.set_cons_succ]
          refine wpAnyH_take (i := 12) (oi := { dst := some 51, op := _, type := _, pos := _, after := _, guard := _ }) (v := .agg #[.string x.p, .int .i64 x.n]) rfl (by kernel_rfl) (by kernel_rfl) (by kernel_rfl) (fun _ _ _ h => h) (Or.inl ⟨by rfl, fun w' hSw => ?_⟩) (by assumption) ?_
          · ((try dsimp only at hSw); go_simp)
          try simp only [Act.put, List.setIfInBounds_toArray, List.set_cons_zero, List.set_cons_succ]
          refine wpAnyH_ready (rs := [8]) (by kernel_rfl) (by simp) ?_
          refine AllReadyH.cons rfl (fun K hK => ?_) AllReadyH.nil
          go_simp
          go_at_call 6
          refine (HR1.out _ HDR.out).mono ?_
          rintro e wl8 ⟨rfl, hb⟩
          have XB8 := Lib.hid (HDR.out.trans (hb.mono HDR.out.size))
          clear hb
          refine hK.out _ _ (HKS.out _ XB8.out) (fun hHeld8 => ?_)
          clear hK K hHeld
          try simp only [Act.put, List.setIfInBounds_toArray, List.set_cons_zero, List.set_cons_succ]
          refine wpAnyH_ready (rs := [13]) (by kernel_rfl) (by simp) ?_
          refine AllReadyH.cons rfl (fun K hK => ?_) AllReadyH.nil
          go_simp
          go_at_call 7
          refine (HR2.out _ XB8.out).mono ?_
          rintro e wl13 ⟨rfl, hb⟩
          have XB13 := Lib.hid (XB8.out.trans (hb.mono XB8.out.size))
          clear hb
          refine hK.out _ _ (HKS.out _ XB13.out) (fun hHeld13 => ?_)
          clear hK K hHeld8
          try simp only [Act.put, List.setIfInBounds_toArray, List.set_cons_zero, List.set_cons_succ]
          refine wpAnyH_take (i := 14) (oi := { dst := some 53, op := _, type := _, pos := _, after := _, guard := _ }) (v := .bool true) rfl (by kernel_rfl) (by kernel_rfl) (by kernel_rfl) (fun _ _ _ h => h) (Or.inl ⟨by rfl, fun w' hSw => ?_⟩) (by assumption) ?_
          · ((try dsimp only at hSw); go_simp)
          try simp only [Act.put, List.setIfInBounds_toArray, List.set_cons_zero, List.set_cons_succ]
          refine wpAnyH_take (i := 15) (oi := { dst := some 54, op := _, type := _, pos := _, after := _, guard := _ }) (v := .bool true) rfl (by kernel_rfl) (by kernel_rfl) (by kernel_rfl) (fun _ _ _ h => h) (Or.inl ⟨by rfl, fun w' hSw => ?_⟩) (by assumption) ?_
          · ((try dsimp only at hSw); go_simp)
          try simp only [Act.put, List.setIfInBounds_toArray, List.set_cons_zero, List.set_cons_succ]
          refine wpAnyH_take (i := 16) (oi := { dst := some 9, op := _, type := _, pos := _, after := _, guard := _ }) (v := .bool true) rfl (by kernel_rfl) (by kernel_rfl) (by kernel_rfl) (fun _ _ _ h => h) (Or.inl ⟨by rfl, fun w' hSw => ?_⟩) (by assumption) ?_
          · ((try dsimp only at hSw); go_simp)
          try simp only [Act.put, List.setIfInBounds_toArray, List.set_cons_zero, List.set_cons_succ]
          refine wpAnyH_done (by kernel_rfl) ?_ _
          refine NoPanic.normal ?_
          go_wp2_with fail
          go_meet
          case rel => exact ⟨rfl, XB13.out⟩
      case rest =>
        obtain ⟨rfl, HQ⟩ := hcut
        have hbq := HQ.out
        replace HA1 := Lib.hid (HA1.out.on hbq)
        replace HL1 := Lib.hid (HL1.out.on hbq)
        replace HX1 := Lib.hid (HX1.out.on hbq)
        replace HST := Lib.hid (HST.out.on hbq)
        replace HB1 := Lib.hid (HB1.out.trans (hbq.mono HB1.out.size))
        clear HQ hbq HI1
        generalize wc = wd at *
        have x0 := id_c0 HX1.out
        have x1 := id_c1 HX1.out
        have HKS : Hid (∀ W, Below wd.heap.size wd W → W.cell? ⟨gx, 0, none⟩ = some (.string x.p) ∧ W.cell? ⟨gx, 1, none⟩ = some (.int .i64 x.n)) := fun W hW => ⟨cell_on x0 hW, cell_on x1 hW⟩
        have HDR : Hid (Below wd.heap.size wd wd.drew) := (Below.refl _ _).drew
        have HAW : Hid (∀ W, Below wd.heap.size wd W → Calls Tryz.prog 5 #[] W fun e w' => e = .returned (.bool true) ∧ Below W.heap.size W w') := fun W hW => idawake_any C W (HB1.out.trans (hW.mono HB1.out.size))
        have HS1 : Hid (∀ W, Below wd.heap.size wd W → Calls Tryz.prog 9 #[.slice A la.length c] W (IdsLeft W (setI (ikeys la)))) := fun W hW => C.set A la c W (HA1.out.on hW) HR0.out (by omega)
        have HS2 : Hid (∀ W, Below wd.heap.size wd W → Calls Tryz.prog 10 #[.slice A la.length c] W (IdsLeft W (setI (ikeys la)))) := fun W hW => refiset_any A la c W (HA1.out.on hW) (by omega)
        have HH1 : Hid (∀ W, Below wd.heap.size wd W → Calls Tryz.prog 11 #[.slice A la.length c, .agg #[.string x.p, .int .i64 x.n]] W fun e w' => e = .returned (.bool (decide (x ∈ la))) ∧ Below W.heap.size W w') := fun W hW => C.has A la c x W (HA1.out.on hW) (by omega)
        have HH2 : Hid (∀ W, Below wd.heap.size wd W → Calls Tryz.prog 12 #[.slice A la.length c, .agg #[.string x.p, .int .i64 x.n]] W fun e w' => e = .returned (.bool (decide (x ∈ la))) ∧ Below W.heap.size W w') := fun W hW => refihas_any A la c x W (HA1.out.on hW) (by omega)
        have HM1 : Hid (∀ W, Below wd.heap.size wd W → Calls Tryz.prog 13 #[.slice A la.length c, .slice A2 lb.length c2] W fun e w' => e = .returned (.bool (meetI (ikeys la) (ikeys lb))) ∧ Below W.heap.size W w') := fun W hW => C.meet A A2 la lb c c2 W (HA1.out.on hW) (HL1.out.on hW) HR9.out (by omega) (by omega)
        have HM2 : Hid (∀ W, Below wd.heap.size wd W → Calls Tryz.prog 14 #[.slice A la.length c, .slice A2 lb.length c2] W fun e w' => e = .returned (.bool (meetI (ikeys la) (ikeys lb))) ∧ Below W.heap.size W w') := fun W hW => refimeet_any A A2 la lb c c2 W (HA1.out.on hW) (HL1.out.on hW) (by omega) (by omega)
        have HP1 : Hid (∀ W, Below wd.heap.size wd W → Calls Tryz.prog 16 #[.slice A la.length c] W (RowLeft W (setS ps))) := fun W hW => by rw [HPS.out]; exact C.patches A la c W (HA1.out.on hW) (by omega)
        have HP2 : Hid (∀ W, Below wd.heap.size wd W → Calls Tryz.prog 17 #[.slice A7 n7 c7] W (RowLeft W (setS ps))) := fun W hW => refset_l11 A7 ps n7 c7 W HN7.out (HST.out.on hW) (by have := HPL.out; omega)
        have HPZ : Hid ((setS ps).length ≤ 100000) := by show _ ≤ _; have h8 := HPL.out; have h9 := sets_le ps; omega
        have HSZ : Hid ((setI (ikeys la)).length ≤ 1000000) := by show _ ≤ _; have h9 := setI_len (ikeys la); rw [ikeys_len] at h9; omega
        clear x0 x1 HA1 HL1 HX1 HST HN7 FA FB hla hlb HPS HPL HR0 C
        generalize setS ps = zs at *
        generalize setI (ikeys la) = zi at *
        generalize decide (x ∈ la) = bh at *
        generalize meetI (ikeys la) (ikeys lb) = bm at *
        -- @P4
        go_upto_region 10 with (fail)
        refine wp_region_noPanic ?_
        refine wp_region_held_drew (S := (fun w' => w'.cell? ⟨gx, 0, none⟩ = some (.string x.p) ∧ w'.cell? ⟨gx, 1, none⟩ = some (.int .i64 x.n))) (by kernel_rfl) (HKS.out _ HDR.out) (fun hHeld => ?_)
        refine wpAnyH_ready (rs := [0]) (by kernel_rfl) (by simp) ?_
        refine AllReadyH.cons rfl (fun K hK => ?_) AllReadyH.nil
        go_simp
        go_at_call 5
        refine (HAW.out _ HDR.out).mono ?_
        rintro e wl0 ⟨rfl, hb⟩
        have XB0 := Lib.hid (HDR.out.trans (hb.mono HDR.out.size))
        clear hb
        refine hK.out _ _ (HKS.out _ XB0.out) (fun hHeld0 => ?_)
        clear hK K hHeld
        try simp only [Act.put, List.setIfInBounds_toArray, List.set_cons_zero, List.set_cons_succ]
        refine wpAnyH_take (i := 1) (oi := { dst := some 56, op := _, type := _, pos := _, after := _, guard := _ }) (v := .bool true) rfl (by kernel_rfl) (by kernel_rfl) (by kernel_rfl) (fun _ _ _ h => h) (Or.inl ⟨by rfl, fun w' hSw => ?_⟩) (by assumption) ?_
        · ((try dsimp only at hSw); go_simp)
        try simp only [Act.put, List.setIfInBounds_toArray, List.set_cons_zero, List.set_cons_succ]
        refine wpAnyH_take (i := 2) (oi := { dst := some 57, op := _, type := _, pos := _, after := _, guard := _ }) (v := .slice A la.length c) rfl (by kernel_rfl) (by kernel_rfl) (by kernel_rfl) (fun _ _ _ h => h) (Or.inl ⟨by rfl, fun w' hSw => ?_⟩) (by assumption) ?_
        · ((try dsimp only at hSw); go_simp)
        try simp only [Act.put, List.setIfInBounds_toArray, List.set_cons_zero, List.set_cons_succ]
        refine wpAnyH_take (i := 4) (oi := { dst := some 59, op := _, type := _, pos := _, after := _, guard := _ }) (v := .slice A la.length c) rfl (by kernel_rfl) (by kernel_rfl) (by kernel_rfl) (fun _ _ _ h => h) (Or.inl ⟨by rfl, fun w' hSw => ?_⟩) (by assumption) ?_
        · ((try dsimp only at hSw); go_simp)
        try simp only [Act.put, List.setIfInBounds_toArray, List.set_cons_zero, List.set_cons_succ]
        refine wpAnyH_ready (rs := [3]) (by kernel_rfl) (by simp) ?_
        refine AllReadyH.cons rfl (fun K hK => ?_) AllReadyH.nil
        go_simp
        go_at_call 9
        refine (HS1.out _ XB0.out).mono ?_
        rintro e wl3 ⟨A3, n3, c3, l3, rfl, hk3, ho3, hb⟩
        have XB3 := Lib.hid (XB0.out.trans (hb.mono XB0.out.size))
        have hr3 := ho3.parts
        have HK3 := Lib.hid hk3
        have H3 := Lib.hid hr3.2.1
        obtain rfl : n3 = l3.length := hr3.1
        clear hk3 ho3 hr3
        clear hb
        refine hK.out _ _ (HKS.out _ XB3.out) (fun hHeld3 => ?_)
        clear hK K hHeld0
        try simp only [Act.put, List.setIfInBounds_toArray, List.set_cons_zero, List.set_cons_succ]
        refine wpAnyH_ready (rs := [5]) (by kernel_rfl) (by simp) ?_
        refine AllReadyH.cons rfl (fun K hK => ?_) AllReadyH.nil
        go_simp
        go_at_call 10
        refine (HS2.out _ XB3.out).mono ?_
        rintro e wl5 ⟨A5, n5, c5, l5, rfl, hk5, ho5, hb⟩
        have XB5 := Lib.hid (XB3.out.trans (hb.mono XB3.out.size))
        have hr5 := ho5.parts
        have HK5 := Lib.hid (show l3 = l5 from ikeys_inj (HK3.out.trans hk5.symm))
        have H5 := Lib.hid hr5.2.1
        obtain rfl : n5 = l5.length := hr5.1
        replace H3 := Lib.hid (H3.out.on hb)
        have CS : Hid (Calls Tryz.prog 8 #[.slice A3 l3.length c3, .slice A5 l5.length c5] wl5 fun e w' => e = .returned (.bool true) ∧ Below wl5.heap.size wl5 w') := by
          have hl3 : l3.length ≤ 1000000 := by rw [← ikeys_len, HK3.out]; exact HSZ.out
          have h := refisame_any A3 A5 l3 l5 c3 c5 wl5 H3.out H5.out hl3 (by rw [← HK5.out]; exact hl3)
          rw [decide_eq_true HK5.out] at h
          exact h
        clear hk5 ho5 hr5
        clear hb
        refine hK.out _ _ (HKS.out _ XB5.out) (fun hHeld5 => ?_)
        clear hK K hHeld3
        try simp only [Act.put, List.setIfInBounds_toArray, List.set_cons_zero, List.set_cons_succ]
        refine wpAnyH_ready (rs := [6]) (by kernel_rfl) (by simp) ?_
        refine AllReadyH.cons rfl (fun K hK => ?_) AllReadyH.nil
        go_simp
        go_at_call 8
        refine CS.out.mono ?_
        rintro e wl6 ⟨rfl, hb⟩
        have XB6 := Lib.hid (XB5.out.trans (hb.mono XB5.out.size))
        clear hb CS HK3 HK5 H3 H5
        refine hK.out _ _ (HKS.out _ XB6.out) (fun hHeld6 => ?_)
        clear hK K hHeld5
        try simp only [Act.put, List.setIfInBounds_toArray, List.set_cons_zero, List.set_cons_succ]
        refine wpAnyH_take (i := 7) (oi := { dst := some 62, op := _, type := _, pos := _, after := _, guard := _ }) (v := .bool true) rfl (by kernel_rfl) (by kernel_rfl) (by kernel_rfl) (fun _ _ _ h => h) (Or.inl ⟨by rfl, fun w' hSw => ?_⟩) (by assumption) ?_
        · ((try dsimp only at hSw); go_simp)
        try simp only [Act.put, List.setIfInBounds_toArray, List.set_cons_zero, List.set_cons_succ]
        refine wpAnyH_take (i := 8) (oi := { dst := some 63, op := _, type := _, pos := _, after := _, guard := _ }) (v := .bool true) rfl (by kernel_rfl) (by kernel_rfl) (by kernel_rfl) (fun _ _ _ h => h) (Or.inl ⟨by rfl, fun w' hSw => ?_⟩) (by assumption) ?_
        · ((try dsimp only at hSw); go_simp)
        try simp only [Act.put, List.setIfInBounds_toArray, List.set_cons_zero, List.set_cons_succ]
        refine wpAnyH_take (i := 9) (oi := { dst := some 64, op := _, type := _, pos := _, after := _, guard := _ }) (v := .slice A la.length c) rfl (by kernel_rfl) (by kernel_rfl) (by kernel_rfl) (fun _ _ _ h => h) (Or.inl ⟨by rfl, fun w' hSw => ?_⟩) (by assumption) ?_
        · ((try dsimp only at hSw); go_simp)
        try simp only [Act.put, List.setIfInBounds_toArray, List.set_cons_zero, List.set_cons_succ]
        refine wpAnyH_take (i := 10) (oi := { dst := some 65, op := _, type := _, pos := _, after := _, guard := _ }) (v := .agg #[.string x.p, .int .i64 x.n]) rfl (by kernel_rfl) (by kernel_rfl) (by kernel_rfl) (fun _ _ _ h => h) (Or.inl ⟨by rfl, fun w' hSw => ?_⟩) (by assumption) ?_
        · ((try dsimp only at hSw); go_simp)
        try simp only [Act.put, List.setIfInBounds_toArray, List.set_cons_zero, List.set_cons_succ]
        refine wpAnyH_take (i := 12) (oi := { dst := some 67, op := _, type := _, pos := _, after := _, guard := _ }) (v := .slice A la.length c) rfl (by kernel_rfl) (by kernel_rfl) (by kernel_rfl) (fun _ _ _ h => h) (Or.inl ⟨by rfl, fun w' hSw => ?_⟩) (by assumption) ?_
        · ((try dsimp only at hSw); go_simp)
        try simp only [Act.put, List.setIfInBounds_toArray, List.set_cons_zero, List.set_cons_succ]
        refine wpAnyH_take (i := 13) (oi := { dst := some 68, op := _, type := _, pos := _, after := _, guard := _ }) (v := .agg #[.string x.p, .int .i64 x.n]) rfl (by kernel_rfl) (by kernel_rfl) (by kernel_rfl) (fun _ _ _ h => h) (Or.inl ⟨by rfl, fun w' hSw => ?_⟩) (by assumption) ?_
        · ((try dsimp only at hSw); go_simp)
        try simp only [Act.put, List.setIfInBounds_toArray, List.set_cons_zero, List.set_cons_succ]
        refine wpAnyH_ready (rs := [11]) (by kernel_rfl) (by simp) ?_
        refine AllReadyH.cons rfl (fun K hK => ?_) AllReadyH.nil
        go_simp
        go_at_call 11
        refine (HH1.out _ XB6.out).mono ?_
        rintro e wl11 ⟨rfl, hb⟩
        have XB11 := Lib.hid (XB6.out.trans (hb.mono XB6.out.size))
        clear hb
        refine hK.out _ _ (HKS.out _ XB11.out) (fun hHeld11 => ?_)
        clear hK K hHeld6
        try simp only [Act.put, List.setIfInBounds_toArray, List.set_cons_zero, List.set_cons_succ]
        refine wpAnyH_ready (rs := [14]) (by kernel_rfl) (by simp) ?_
        refine AllReadyH.cons rfl (fun K hK => ?_) AllReadyH.nil
        go_simp
        go_at_call 12
        refine (HH2.out _ XB11.out).mono ?_
        rintro e wl14 ⟨rfl, hb⟩
        have XB14 := Lib.hid (XB11.out.trans (hb.mono XB11.out.size))
        clear hb
        refine hK.out _ _ (HKS.out _ XB14.out) (fun hHeld14 => ?_)
        clear hK K hHeld11
        try simp only [Act.put, List.setIfInBounds_toArray, List.set_cons_zero, List.set_cons_succ]
        refine wpAnyH_take (i := 15) (oi := { dst := some 70, op := _, type := _, pos := _, after := _, guard := _ }) (v := .bool true) rfl (by kernel_rfl) (by kernel_rfl) (by kernel_rfl) (fun _ _ _ h => h) (Or.inl ⟨by rfl, fun w' hSw => ?_⟩) (by assumption) ?_
        · ((try dsimp only at hSw); go_simp)
        try simp only [Act.put, List.setIfInBounds_toArray, List.set_cons_zero, List.set_cons_succ]
        refine wpAnyH_take (i := 16) (oi := { dst := some 71, op := _, type := _, pos := _, after := _, guard := _ }) (v := .bool true) rfl (by kernel_rfl) (by kernel_rfl) (by kernel_rfl) (fun _ _ _ h => h) (Or.inl ⟨by rfl, fun w' hSw => ?_⟩) (by assumption) ?_
        · ((try dsimp only at hSw); go_simp)
        try simp only [Act.put, List.setIfInBounds_toArray, List.set_cons_zero, List.set_cons_succ]
        refine wpAnyH_take (i := 17) (oi := { dst := some 72, op := _, type := _, pos := _, after := _, guard := _ }) (v := .bool true) rfl (by kernel_rfl) (by kernel_rfl) (by kernel_rfl) (fun _ _ _ h => h) (Or.inl ⟨by rfl, fun w' hSw => ?_⟩) (by assumption) ?_
        · ((try dsimp only at hSw); go_simp)
        try simp only [Act.put, List.setIfInBounds_toArray, List.set_cons_zero, List.set_cons_succ]
        refine wpAnyH_take (i := 18) (oi := { dst := some 73, op := _, type := _, pos := _, after := _, guard := _ }) (v := .slice A la.length c) rfl (by kernel_rfl) (by kernel_rfl) (by kernel_rfl) (fun _ _ _ h => h) (Or.inl ⟨by rfl, fun w' hSw => ?_⟩) (by assumption) ?_
        · ((try dsimp only at hSw); go_simp)
        try simp only [Act.put, List.setIfInBounds_toArray, List.set_cons_zero, List.set_cons_succ]
        refine wpAnyH_take (i := 19) (oi := { dst := some 74, op := _, type := _, pos := _, after := _, guard := _ }) (v := .slice A2 lb.length c2) rfl (by kernel_rfl) (by kernel_rfl) (by kernel_rfl) (fun _ _ _ h => h) (Or.inl ⟨by rfl, fun w' hSw => ?_⟩) (by assumption) ?_
        · ((try dsimp only at hSw); go_simp)
        try simp only [Act.put, List.setIfInBounds_toArray, List.set_cons_zero, List.set_cons_succ]
        refine wpAnyH_take (i := 21) (oi := { dst := some 76, op := _, type := _, pos := _, after := _, guard := _ }) (v := .slice A la.length c) rfl (by kernel_rfl) (by kernel_rfl) (by kernel_rfl) (fun _ _ _ h => h) (Or.inl ⟨by rfl, fun w' hSw => ?_⟩) (by assumption) ?_
        · ((try dsimp only at hSw); go_simp)
        try simp only [Act.put, List.setIfInBounds_toArray, List.set_cons_zero, List.set_cons_succ]
        refine wpAnyH_take (i := 22) (oi := { dst := some 77, op := _, type := _, pos := _, after := _, guard := _ }) (v := .slice A2 lb.length c2) rfl (by kernel_rfl) (by kernel_rfl) (by kernel_rfl) (fun _ _ _ h => h) (Or.inl ⟨by rfl, fun w' hSw => ?_⟩) (by assumption) ?_
        · ((try dsimp only at hSw); go_simp)
        try simp only [Act.put, List.setIfInBounds_toArray, List.set_cons_zero, List.set_cons_succ]
        refine wpAnyH_ready (rs := [20]) (by kernel_rfl) (by simp) ?_
        refine AllReadyH.cons rfl (fun K hK => ?_) AllReadyH.nil
        go_simp
        go_at_call 13
        refine (HM1.out _ XB14.out).mono ?_
        rintro e wl20 ⟨rfl, hb⟩
        have XB20 := Lib.hid (XB14.out.trans (hb.mono XB14.out.size))
        clear hb
        refine hK.out _ _ (HKS.out _ XB20.out) (fun hHeld20 => ?_)
        clear hK K hHeld14
        try simp only [Act.put, List.setIfInBounds_toArray, List.set_cons_zero, List.set_cons_succ]
        refine wpAnyH_ready (rs := [23]) (by kernel_rfl) (by simp) ?_
        refine AllReadyH.cons rfl (fun K hK => ?_) AllReadyH.nil
        go_simp
        go_at_call 14
        refine (HM2.out _ XB20.out).mono ?_
        rintro e wl23 ⟨rfl, hb⟩
        have XB23 := Lib.hid (XB20.out.trans (hb.mono XB20.out.size))
        clear hb
        refine hK.out _ _ (HKS.out _ XB23.out) (fun hHeld23 => ?_)
        clear hK K hHeld20
        try simp only [Act.put, List.setIfInBounds_toArray, List.set_cons_zero, List.set_cons_succ]
        refine wpAnyH_take (i := 24) (oi := { dst := some 79, op := _, type := _, pos := _, after := _, guard := _ }) (v := .bool true) rfl (by kernel_rfl) (by kernel_rfl) (by kernel_rfl) (fun _ _ _ h => h) (Or.inl ⟨by rfl, fun w' hSw => ?_⟩) (by assumption) ?_
        · ((try dsimp only at hSw); go_simp)
        try simp only [Act.put, List.setIfInBounds_toArray, List.set_cons_zero, List.set_cons_succ]
        refine wpAnyH_take (i := 25) (oi := { dst := some 80, op := _, type := _, pos := _, after := _, guard := _ }) (v := .bool true) rfl (by kernel_rfl) (by kernel_rfl) (by kernel_rfl) (fun _ _ _ h => h) (Or.inl ⟨by rfl, fun w' hSw => ?_⟩) (by assumption) ?_
        · ((try dsimp only at hSw); go_simp)
        try simp only [Act.put, List.setIfInBounds_toArray, List.set_cons_zero, List.set_cons_succ]
        refine wpAnyH_take (i := 26) (oi := { dst := some 81, op := _, type := _, pos := _, after := _, guard := _ }) (v := .bool true) rfl (by kernel_rfl) (by kernel_rfl) (by kernel_rfl) (fun _ _ _ h => h) (Or.inl ⟨by rfl, fun w' hSw => ?_⟩) (by assumption) ?_
        · ((try dsimp only at hSw); go_simp)
        try simp only [Act.put, List.setIfInBounds_toArray, List.set_cons_zero, List.set_cons_succ]
        refine wpAnyH_take (i := 27) (oi := { dst := some 82, op := _, type := _, pos := _, after := _, guard := _ }) (v := .slice A la.length c) rfl (by kernel_rfl) (by kernel_rfl) (by kernel_rfl) (fun _ _ _ h => h) (Or.inl ⟨by rfl, fun w' hSw => ?_⟩) (by assumption) ?_
        · ((try dsimp only at hSw); go_simp)
        try simp only [Act.put, List.setIfInBounds_toArray, List.set_cons_zero, List.set_cons_succ]
        refine wpAnyH_take (i := 29) (oi := { dst := some 84, op := _, type := _, pos := _, after := _, guard := _ }) (v := .slice A7 n7 c7) rfl (by kernel_rfl) (by kernel_rfl) (by kernel_rfl) (fun _ _ _ h => h) (Or.inl ⟨by rfl, fun w' hSw => ?_⟩) (by assumption) ?_
        · ((try dsimp only at hSw); go_simp)
        try simp only [Act.put, List.setIfInBounds_toArray, List.set_cons_zero, List.set_cons_succ]
        refine wpAnyH_ready (rs := [28]) (by kernel_rfl) (by simp) ?_
        refine AllReadyH.cons rfl (fun K hK => ?_) AllReadyH.nil
        go_simp
        go_at_call 16
        refine (HP1.out _ XB23.out).mono ?_
        rintro e wl28 ⟨A28, c28, rfl, _, hs28, hb⟩
        have XB28 := Lib.hid (XB23.out.trans (hb.mono XB23.out.size))
        have HS28 := Lib.hid hs28
        clear hs28
        clear hb
        refine hK.out _ _ (HKS.out _ XB28.out) (fun hHeld28 => ?_)
        clear hK K hHeld23
        try simp only [Act.put, List.setIfInBounds_toArray, List.set_cons_zero, List.set_cons_succ]
        refine wpAnyH_ready (rs := [30]) (by kernel_rfl) (by simp) ?_
        refine AllReadyH.cons rfl (fun K hK => ?_) AllReadyH.nil
        go_simp
        go_at_call 17
        refine (HP2.out _ XB28.out).mono ?_
        rintro e wl30 ⟨A30, c30, rfl, _, hs30, hb⟩
        have XB30 := Lib.hid (XB28.out.trans (hb.mono XB28.out.size))
        have CZ := Lib.hid (refsame_l11 A28 A30 zs c28 c30 wl30 (HS28.out.on hb) hs30 HPZ.out)
        clear hs30 HS28
        clear hb
        refine hK.out _ _ (HKS.out _ XB30.out) (fun hHeld30 => ?_)
        clear hK K hHeld28
        try simp only [Act.put, List.setIfInBounds_toArray, List.set_cons_zero, List.set_cons_succ]
        refine wpAnyH_ready (rs := [31]) (by kernel_rfl) (by simp) ?_
        refine AllReadyH.cons rfl (fun K hK => ?_) AllReadyH.nil
        go_simp
        go_at_call 15
        refine CZ.out.mono ?_
        rintro e wl31 ⟨rfl, hb⟩
        have XB31 := Lib.hid (XB30.out.trans (hb.mono XB30.out.size))
        clear hb CZ
        refine hK.out _ _ (HKS.out _ XB31.out) (fun hHeld31 => ?_)
        clear hK K hHeld30
        try simp only [Act.put, List.setIfInBounds_toArray, List.set_cons_zero, List.set_cons_succ]
        refine wpAnyH_take (i := 32) (oi := { dst := some 87, op := _, type := _, pos := _, after := _, guard := _ }) (v := .bool true) rfl (by kernel_rfl) (by kernel_rfl) (by kernel_rfl) (fun _ _ _ h => h) (Or.inl ⟨by rfl, fun w' hSw => ?_⟩) (by assumption) ?_
        · ((try dsimp only at hSw); go_simp)
        try simp only [Act.put, List.setIfInBounds_toArray, List.set_cons_zero, List.set_cons_succ]
        refine wpAnyH_take (i := 33) (oi := { dst := some 88, op := _, type := _, pos := _, after := _, guard := _ }) (v := .bool true) rfl (by kernel_rfl) (by kernel_rfl) (by kernel_rfl) (fun _ _ _ h => h) (Or.inl ⟨by rfl, fun w' hSw => ?_⟩) (by assumption) ?_
        · ((try dsimp only at hSw); go_simp)
        try simp only [Act.put, List.setIfInBounds_toArray, List.set_cons_zero, List.set_cons_succ]
        refine wpAnyH_take (i := 34) (oi := { dst := some 89, op := _, type := _, pos := _, after := _, guard := _ }) (v := .bool true) rfl (by kernel_rfl) (by kernel_rfl) (by kernel_rfl) (fun _ _ _ h => h) (Or.inl ⟨by rfl, fun w' hSw => ?_⟩) (by assumption) ?_
        · ((try dsimp only at hSw); go_simp)
        try simp only [Act.put, List.setIfInBounds_toArray, List.set_cons_zero, List.set_cons_succ]
        refine wpAnyH_take (i := 35) (oi := { dst := some 90, op := _, type := _, pos := _, after := _, guard := _ }) (v := .bool true) rfl (by kernel_rfl) (by kernel_rfl) (by kernel_rfl) (fun _ _ _ h => h) (Or.inl ⟨by rfl, fun w' hSw => ?_⟩) (by assumption) ?_
        · ((try dsimp only at hSw); go_simp)
        try simp only [Act.put, List.setIfInBounds_toArray, List.set_cons_zero, List.set_cons_succ]
        refine wpAnyH_take (i := 36) (oi := { dst := some 6, op := _, type := _, pos := _, after := _, guard := _ }) (v := .bool true) rfl (by kernel_rfl) (by kernel_rfl) (by kernel_rfl) (fun _ _ _ h => h) (Or.inl ⟨by rfl, fun w' hSw => ?_⟩) (by assumption) ?_
        · ((try dsimp only at hSw); go_simp)
        try simp only [Act.put, List.setIfInBounds_toArray, List.set_cons_zero, List.set_cons_succ]
        refine wpAnyH_done (by kernel_rfl) ?_ _
        refine NoPanic.normal ?_
        go_wp2
        go_ret
        exact ⟨rfl, HB1.out.trans (XB31.out.mono HB1.out.size)⟩
end Go.Proofs.YthenlajknoddcaaGreatDoor
