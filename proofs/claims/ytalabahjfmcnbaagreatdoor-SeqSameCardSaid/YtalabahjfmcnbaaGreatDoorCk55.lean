/- SeqSame. -/
import Derived.BigQuiet
import Derived.Deep.QuietTactic
import Derived.Handy
import Derived.Deep.RegionLaw
import Derived.Deep.RegionHeld3
import Derived.WalkKit
import Derived.Deep.Cut
import Derived.Test.YtalabahjfmcnbaaGreatDoorCk21
import Derived.Test.YtalabahjfmcnbaaGreatDoorCk32
import Derived.Test.YtalabahjfmcnbaaGreatDoorCk51
import Derived.Test.YtalabahjfmcnbaaGreatDoorCk54
namespace Go.Proofs.YtalabahjfmcnbaaGreatDoor
open Go.RowKit
set_option linter.unusedVariables false

theorem apAll_len10 : ∀ {l : List Pk} {ks res : List PF} {er : Int}, apAll ks l = (er, res) → res.length ≤ ks.length + l.length
  | [], ks, res, er, h => by
    cases h
    simp
  | p :: l, ks, res, er, h => by
    unfold apAll at h
    have h1 := ap_len ks p
    split at h
    · have := apAll_len10 h
      simp only [List.length_cons]
      omega
    · cases h
      simp
theorem comes_len : ∀ (l : List Pk), (∀ z ∈ l, LtK z) → comesN l ≤ 60 * l.length
  | [], _ => by simp [comesN]
  | p :: l, h => by
    have h1 := comes_len l fun z hz => h z (List.mem_cons_of_mem _ hz)
    have h2 := (h p (List.mem_cons_self ..)).new.1
    have e : comesN (p :: l) = p.new.length + comesN l := by simp [comesN]
    rw [e, List.length_cons]
    omega
theorem all_c {w0 : World} {B : Option Addr} {l c : Nat} {kt : List PF} (ht : TrC w0 B l c kt) (hw : Well kt) (hk : kt.length ≤ 40) (ps : List Pm) (hl : ∀ z ∈ ps, LtK z.key) (hn : ps.length ≤ 30) (hT : Tabs w0) {er : Int} {res : List PF} (hap : apAll kt (pkeys ps) = (er, res)) :
    ∀ W, Below w0.heap.size w0 W → ∀ (A : Option Addr) (n c' : Nat), RowW W A n c' ps → Calls Tryz.prog 17 #[.agg #[.slice B l c], .slice A n c'] W (TreeLeft TrC W er res) := by
  intro W hW A n c' hr
  have e := hr.len
  subst e
  exact pall_any tree_c B l c kt A ps c' er res W (tree_c.on ht hW) (by omega) hw hr.at_ (fun x hx => lt_light (hl x hx)) (Tabs.on hT hW) hap
theorem tree_back {w : World} {A : Option Addr} {n c : Nat} {er : Int} {res : List PF} (h : Hid ((er = 0 → TrC w A n c res) ∧ (er ≠ 0 → TrC w A n c []))) : ∃ ku, TrC w A n c ku ∧ (er = 0 → ku = res) := by
  by_cases h0 : er = 0
  · exact ⟨res, h.out.1 h0, fun _ => rfl⟩
  · exact ⟨[], h.out.2 h0, fun h2 => absurd h2 h0⟩
theorem own_not_tree {W : World} {B : Nat} {v : Value} {qs : List Pm} {g : Nat} {A : Option Addr} {n c : Nat} (h : OwnP W B v qs) (k : TAt W g A n c) : v.ownBlock ≠ some g := fun e => by
  obtain ⟨cur, fz, h2⟩ := h.type_of e
  rw [show W.heap[g]? = _ from k] at h2
  simp only [Option.some.injEq, Obj.cells.injEq] at h2
  exact absurd h2.2.1 (by decide)
theorem roww_app {W0 W : World} {A1 A2 A : Option Addr} {n1 c1 n2 c2 n c B : Nat} {l1 l2 : List Pm} (h1 : RowW W0 A1 n1 c1 l1) (h2 : RowW W0 A2 n2 c2 l2) (hb : Below W0.heap.size W0 W) (ho : OwnP W B (.slice A n c) (l1 ++ l2)) : RowW W A n c (l1 ++ l2) :=
  RowB.of_own ho (Nat.le_refl _) fun z hz => by
    rcases List.mem_append.1 hz with hz | hz
    · exact (h1.ok z hz).on hb
    · exact (h2.ok z hz).on hb
theorem keys_app (a b : List Pm) : pkeys (a ++ b) = pkeys a ++ pkeys b := by simp [pkeys]
set_option maxHeartbeats 40000000 in
set_option maxRecDepth 100000 in
theorem seqsame_any (A0 : Option Addr) (fs : List Fm) (c0 : Nat) (A1 : Option Addr) (la : List Pm) (c1 : Nat) (A2 : Option Addr) (lb : List Pm) (c2 : Nat) (i : Int) (w : World) (hf : Fs w w.heap.size A0 fs) (hfn : fs.length ≤ 9223372036854775807) (hfm : ∀ f ∈ fs, f.p.size ≤ 9223372036854775807 ∧ f.ls.length ≤ 9223372036854775807) (h1 : Ps w w.heap.size A1 la) (m1 : la.length ≤ 9223372036854775807) (r1 : Room A1 la.length c1) (h2 : Ps w w.heap.size A2 lb) (m2 : lb.length ≤ 9223372036854775807) (r2 : Room A2 lb.length c2) (hT : Tabs w) :
    Calls Tryz.prog 4 #[.agg #[.slice A0 fs.length c0, .slice A1 la.length c1, .slice A2 lb.length c2, .int .i64 i]] w fun e w' => e = .returned (.bool true) ∧ Below w.heap.size w w' := by
  have HT := Lib.hid hT
  have HF := Lib.hid hf
  have H1 := Lib.hid (roww_in h1 r1)
  have H2 := Lib.hid (roww_in h2 r2)
  have HFM := Lib.hid hfm
  have C0 := Lib.hid (fun w1 (hb : Below w.heap.size w w1) => light6_any A0 fs c0 w1 (HF.out.on hb) hfn (fun f h => (HFM.out f h).2))
  have C1 := Lib.hid (fun w1 (hb : Below w.heap.size w w1) => light7_any A1 la c1 w1 (H1.out.on hb).at_ m1)
  have C2 := Lib.hid (fun w1 (hb : Below w.heap.size w w1) => light7_any A2 lb c2 w1 (H2.out.on hb).at_ m2)
  have hb0 := Lib.hid (fun nq : Nat => below_drewN ((Below.refl _ w).alloc (Nat.le_refl _) (.cells #[.slice A0 fs.length c0, .slice A1 la.length c1, .slice A2 lb.length c2, .int .i64 i] 40)) nq)
  clear hT hf h1 r1 h2 r2 hfm
  cases k0 : light6B fs
  · rw [k0] at C0
    clear C1 C2 k0
    go_enter Tryz.func4, Tryz.ntmps4
    go_wp2_with fail
    go_quiet (fail)
    have hb1 := hb0.out nq
    generalize (World.alloc _ _).drewN nq = w1 at hb1 ⊢
    clear hb0
    have HA := Lib.hid hb1
    replace HT := Lib.hid (Tabs.on HT.out hb1)
    go_wp2_with fail
    refine (C0.out w1 hb1).mono ?_
    rintro e wl ⟨rfl, rfl⟩
    clear C0
    go_wp2_with fail
    refine (sawake_any _ HT.out).mono ?_
    rintro e wz ⟨rfl, hb⟩
    have HB := Lib.hid (HA.out.trans (hb.mono HA.out.size))
    clear hb
    go_wp2
    go_ret
    exact ⟨rfl, HB.out⟩
  rw [k0] at C0
  cases k1 : light7B la
  · rw [k1] at C1
    clear C2 k0 k1
    go_enter Tryz.func4, Tryz.ntmps4
    go_wp2_with fail
    go_quiet (fail)
    have hb1 := hb0.out nq
    generalize (World.alloc _ _).drewN nq = w1 at hb1 ⊢
    clear hb0
    have HA := Lib.hid hb1
    replace HT := Lib.hid (Tabs.on HT.out hb1)
    go_wp2_with fail
    refine (C0.out w1 hb1).mono ?_
    rintro e wl ⟨rfl, rfl⟩
    clear C0
    go_wp2_with fail
    refine (C1.out w1 hb1).mono ?_
    rintro e wl ⟨rfl, rfl⟩
    clear C1
    go_wp2_with fail
    refine (sawake_any _ HT.out).mono ?_
    rintro e wz ⟨rfl, hb⟩
    have HB := Lib.hid (HA.out.trans (hb.mono HA.out.size))
    clear hb
    go_wp2
    go_ret
    exact ⟨rfl, HB.out⟩
  rw [k1] at C1
  cases k2 : light7B lb
  · rw [k2] at C2
    clear k0 k1 k2
    go_enter Tryz.func4, Tryz.ntmps4
    go_wp2_with fail
    go_quiet (fail)
    have hb1 := hb0.out nq
    generalize (World.alloc _ _).drewN nq = w1 at hb1 ⊢
    clear hb0
    have HA := Lib.hid hb1
    replace HT := Lib.hid (Tabs.on HT.out hb1)
    go_wp2_with fail
    refine (C0.out w1 hb1).mono ?_
    rintro e wl ⟨rfl, rfl⟩
    clear C0
    go_wp2_with fail
    refine (C1.out w1 hb1).mono ?_
    rintro e wl ⟨rfl, rfl⟩
    clear C1
    go_wp2_with fail
    refine (C2.out w1 hb1).mono ?_
    rintro e wl ⟨rfl, rfl⟩
    clear C2
    go_wp2_with fail
    refine (sawake_any _ HT.out).mono ?_
    rintro e wz ⟨rfl, hb⟩
    have HB := Lib.hid (HA.out.trans (hb.mono HA.out.size))
    clear hb
    go_wp2
    go_ret
    exact ⟨rfl, HB.out⟩
  rw [k2] at C2
  have L1 := Lib.hid (light7_lt k1)
  have L2 := Lib.hid (light7_lt k2)
  obtain ⟨hfl, hfo⟩ := light6_facts k0
  have HFO := Lib.hid hfo
  clear k0 k1 k2 hfo
  by_cases n0 : 12 < la.length
  · have g0 : (12 : Int) < (la.length : Int) := by omega
    have g1 : (la.length : Int) > 12 := by omega
    clear m1 m2 n0
    go_enter Tryz.func4, Tryz.ntmps4
    go_wp2_with fail
    go_quiet (fail)
    have hb1 := hb0.out nq
    generalize (World.alloc _ _).drewN nq = w1 at hb1 ⊢
    clear hb0
    have HA := Lib.hid hb1
    replace HT := Lib.hid (Tabs.on HT.out hb1)
    go_wp2_with fail
    refine (C0.out w1 hb1).mono ?_
    rintro e wl ⟨rfl, rfl⟩
    clear C0
    go_wp2_with fail
    refine (C1.out w1 hb1).mono ?_
    rintro e wl ⟨rfl, rfl⟩
    clear C1
    go_wp2_with fail
    refine (C2.out w1 hb1).mono ?_
    rintro e wl ⟨rfl, rfl⟩
    clear C2
    go_wp2_with fail
    refine (sawake_any _ HT.out).mono ?_
    rintro e wz ⟨rfl, hb⟩
    have HB := Lib.hid (HA.out.trans (hb.mono HA.out.size))
    clear hb
    go_wp2
    go_ret
    exact ⟨rfl, HB.out⟩
  by_cases n1 : 12 < lb.length
  · have g0 : ¬ (12 : Int) < (la.length : Int) := by omega
    have g1 : ¬ (la.length : Int) > 12 := by omega
    have g2 : (12 : Int) < (lb.length : Int) := by omega
    have g3 : (lb.length : Int) > 12 := by omega
    clear m1 m2 n0 n1
    go_enter Tryz.func4, Tryz.ntmps4
    go_wp2_with fail
    go_quiet (fail)
    have hb1 := hb0.out nq
    generalize (World.alloc _ _).drewN nq = w1 at hb1 ⊢
    clear hb0
    have HA := Lib.hid hb1
    replace HT := Lib.hid (Tabs.on HT.out hb1)
    go_wp2_with fail
    refine (C0.out w1 hb1).mono ?_
    rintro e wl ⟨rfl, rfl⟩
    clear C0
    go_wp2_with fail
    refine (C1.out w1 hb1).mono ?_
    rintro e wl ⟨rfl, rfl⟩
    clear C1
    go_wp2_with fail
    refine (C2.out w1 hb1).mono ?_
    rintro e wl ⟨rfl, rfl⟩
    clear C2
    go_wp2_with fail
    refine (sawake_any _ HT.out).mono ?_
    rintro e wz ⟨rfl, hb⟩
    have HB := Lib.hid (HA.out.trans (hb.mono HA.out.size))
    clear hb
    go_wp2
    go_ret
    exact ⟨rfl, HB.out⟩
  have g0 : ¬ (12 : Int) < (la.length : Int) := by omega
  have g1 : ¬ (la.length : Int) > 12 := by omega
  have g2 : ¬ (12 : Int) < (lb.length : Int) := by omega
  have g3 : ¬ (lb.length : Int) > 12 := by omega
  have HL : Hid (la.length ≤ 12 ∧ lb.length ≤ 12) := ⟨by omega, by omega⟩
  clear m1 m2 n0 n1
  go_enter Tryz.func4, Tryz.ntmps4
  go_wp2_with fail
  go_quiet (fail)
  have hb1 := hb0.out nq
  generalize (World.alloc _ _).drewN nq = w1 at hb1 ⊢
  clear hb0
  have HA := Lib.hid hb1
  replace HT := Lib.hid (Tabs.on HT.out hb1)
  go_wp2_with fail
  refine (C0.out w1 hb1).mono ?_
  rintro e wl ⟨rfl, rfl⟩
  clear C0
  go_wp2_with fail
  refine (C1.out w1 hb1).mono ?_
  rintro e wl ⟨rfl, rfl⟩
  clear C1
  go_wp2_with fail
  refine (C2.out w1 hb1).mono ?_
  rintro e wl ⟨rfl, rfl⟩
  clear C2
  replace H1 := Lib.hid (H1.out.on hb1)
  replace H2 := Lib.hid (H2.out.on hb1)
  have CO := Lib.hid (of_any A0 fs c0 w1 (HF.out.on hb1) (by omega) (fun f h => Nat.le_trans (light6_of (HFO.out f h)).1 (by decide)) (fun f h => (light6_of (HFO.out f h)).2.wide) HT.out)
  clear HF hb1
  go_wp2_with fail
  clear g0 g1 g2 g3
  refine CO.out.mono ?_
  rintro e wo ⟨er0, ks, hperm, hweak, hofe, B1, l1, c3, rfl, ht, hb⟩
  obtain ⟨kt, hkt, hkw, hkl, hkz⟩ : ∃ kt, TrC wo B1 l1 c3 kt ∧ Well kt ∧ kt.length ≤ 40 ∧ ∀ k ∈ kt, k.2.2.length ≤ 60 := by
    by_cases h : er0 = 0
    · refine ⟨ks, ht.out.1 h, well_of hweak ?_, ?_, fun k hk => ?_⟩
      · rcases hofe with ⟨_, h2⟩ | ⟨h2, _⟩
        · exact h2
        · exact absurd h h2
      · have := hperm.length_eq
        rw [fkeys_len] at this
        omega
      · have h3 := hperm.mem_iff.1 hk
        unfold fkeys at h3
        obtain ⟨f, hf, rfl⟩ := List.mem_map.1 h3
        exact (light6_of (HFO.out f hf)).2.1
    · exact ⟨[], ht.out.2 h, Well.nil, by simp, fun k hk => by cases hk⟩
  obtain ⟨hbt, htk⟩ := tree_kept hkt
  have hbl := hb.trans (hbt.mono hb.size)
  replace H1 := Lib.hid (H1.out.on hbl)
  replace H2 := Lib.hid (H2.out.on hbl)
  replace HA := Lib.hid (HA.out.trans (hbl.mono HA.out.size))
  replace HT := Lib.hid (Tabs.on HT.out hbl)
  have Ht1 := Lib.hid htk
  have KW := Lib.hid hkw
  have KL := Lib.hid hkl
  have KZ := Lib.hid hkz
  obtain ⟨er1, res, hap⟩ : ∃ er res, apAll kt (pkeys (la ++ lb)) = (er, res) := ⟨_, _, rfl⟩
  have HAP := Lib.hid hap
  have HAB : Hid ((la ++ lb).length ≤ 30) := by show _ ≤ _; rw [List.length_append]; have h9 := HL.out; omega
  have HLB : Hid (∀ z ∈ la ++ lb, LtK z.key) := fun z hz => (List.mem_append.1 hz).elim (L1.out z) (L2.out z)
  clear hperm hweak hofe ht hb hkt hkw hkl hkz hbt htk hbl CO hap HFO hfl hfn HFM
  go_upto_region 5 with (fail)
  generalize hg1 : wo.heap.size = g1 at *
  generalize (wo.alloc (.cells #[.slice B1 l1 c3] 43)) = wk1 at *
  clear hg1
  have HKS : Hid (∀ W, Below wk1.heap.size wk1 W → W.cell? ⟨g1, 0, none⟩ = some (.slice B1 l1 c3)) := fun W hW => (Ht1.out.2.on hW).c0
  have CP := Lib.hid (all_c Ht1.out.1 KW.out KL.out (la ++ lb) HLB.out HAB.out HT.out HAP.out)
  have HDR : Hid (Below wk1.heap.size wk1 wk1.drew) := (Below.refl _ _).drew
  obtain ⟨N, hN⟩ : ∃ N, N = ([] : List Pm).length + la.length := ⟨_, rfl⟩
  obtain ⟨M, hM⟩ : ∃ M, M = la.length + lb.length := ⟨_, rfl⟩
  have HN := Lib.hid hN
  have HM := Lib.hid hM
  have HLE1 : Hid (([] : List Pm).length + la.length ≤ 100000) := by show _ ≤ _; have h9 := HAB.out; simp only [List.length_append] at h9; simp only [List.length_nil]; omega
  have HLE2 : Hid (la.length + lb.length ≤ 100000) := by show _ ≤ _; have h9 := HAB.out; simp only [List.length_append] at h9; omega
  clear hN hM
  go_upto_region 5 with (fail)
  go_cut [9, 10] from 20 (fun pt pe wx => ∃ (g9 : Nat) (B9 : Option Addr) (l9 c9 : Nat) (kw : List PF), pt = .pointer (some ⟨g9, 0, none⟩) ∧ pe = .int .i64 er1 ∧ Hid (TrC wx B9 l9 c9 kw ∧ TAt wx g9 B9 l9 c9 ∧ (er1 = (0 : Int) → kw = res) ∧ Below wk1.heap.size wk1 wx))
  case first =>
    clear KZ
    refine wp_region_noPanic ?_
    refine wp_region_held_drew (S := (fun w' => w'.cell? ⟨g1, 0, none⟩ = some (.slice B1 l1 c3))) (by kernel_rfl) (HKS.out _ HDR.out) (fun hHeld => ?_)
    refine wpAnyH_take (i := 0) (oi := { dst := some 58, op := _, type := _, pos := _, after := _, guard := _ }) (v := .agg #[.slice B1 l1 c3]) rfl (by kernel_rfl) (by kernel_rfl) (by kernel_rfl) (fun _ _ _ h => h) (Or.inl ⟨by rfl, fun w' hSw => ?_⟩) (by assumption) ?_
    · ((try dsimp only at hSw); go_simp)
    try simp only [Act.put, List.setIfInBounds_toArray, List.set_cons_zero, List.set_cons_succ]
    refine wpAnyH_take (i := 2) (oi := { dst := some 60, op := _, type := _, pos := _, after := _, guard := _ }) (v := .slice A1 la.length c1) rfl (by kernel_rfl) (by kernel_rfl) (by kernel_rfl) (fun _ _ _ h => h) (Or.inl ⟨by rfl, fun w' hSw => ?_⟩) (by assumption) ?_
    · ((try dsimp only at hSw); go_simp)
    try simp only [Act.put, List.setIfInBounds_toArray, List.set_cons_zero, List.set_cons_succ]
    refine wpAnyH_take (i := 4) (oi := { dst := some 62, op := _, type := _, pos := _, after := _, guard := _ }) (v := .slice A2 lb.length c2) rfl (by kernel_rfl) (by kernel_rfl) (by kernel_rfl) (fun _ _ _ h => h) (Or.inl ⟨by rfl, fun w' hSw => ?_⟩) (by assumption) ?_
    · ((try dsimp only at hSw); go_simp)
    try simp only [Act.put, List.setIfInBounds_toArray, List.set_cons_zero, List.set_cons_succ]
    have XB0 := Lib.hid HDR.out
    generalize hwD : wk1.drew = wD at *
    clear hwD HDR
    refine wpAnyH_ready (rs := [1, 10]) (by kernel_rfl) (by simp) ?_
    refine AllReadyH.cons rfl (fun K hK => ?_) (AllReadyH.cons rfl (fun K hK => ?_) AllReadyH.nil)
    · have hb : Below wD.heap.size wD (wD.alloc (.cells #[] 33)) := (Below.refl _ _).alloc (Nat.le_refl _) _
      have XE1 := Lib.hid (XB0.out.trans (hb.mono XB0.out.size))
      have HO := Lib.hid (own_madep wD wk1.heap.size XB0.out.size)
      clear hb
      go_simp
      refine hK.out _ _ (HKS.out _ XE1.out) (fun hHeld1 => ?_)
      clear hK K hHeld
      try simp only [Act.put, List.setIfInBounds_toArray, List.set_cons_zero, List.set_cons_succ]
      generalize hwn : (wD.alloc (.cells #[] 33)) = we1 at *
      clear hwn
      refine wpAnyH_ready (rs := [3, 10]) (by kernel_rfl) (by simp) ?_
      refine AllReadyH.cons rfl (fun K hK => ?_) (AllReadyH.cons rfl (fun K hK => ?_) AllReadyH.nil)
      · refine step_append_prims 61 rfl rfl _ _ rfl wk1.heap.size (.slice (some ⟨wD.heap.size, 0, none⟩) 0 0) [] rfl HO.out la A1 la.length c1 rfl H1.out.len H1.out.room.1 (H1.out.on XE1.out).at_ XE1.out.size HLE1.out N HN.out ?_
        intro AP2 cp2 wp2 ho hg
        have hb : Below wk1.heap.size wk1 wp2 := below_appendp XE1.out HO.out hg (Nat.le_refl _)
        have XP2 := Lib.hid hb
        replace HO : Hid (OwnP wp2 wk1.heap.size (.slice AP2 N cp2) la) := ho
        clear ho hg hb
        refine hK.out _ _ (HKS.out _ XP2.out) (fun hHeld3 => ?_)
        clear hK K hHeld1
        try simp only [Act.put, List.setIfInBounds_toArray, List.set_cons_zero, List.set_cons_succ]
        refine wpAnyH_ready (rs := [5, 10]) (by kernel_rfl) (by simp) ?_
        refine AllReadyH.cons rfl (fun K hK => ?_) (AllReadyH.cons rfl (fun K hK => ?_) AllReadyH.nil)
        · refine step_append_prims 63 rfl rfl _ _ rfl wk1.heap.size (.slice AP2 N cp2) la rfl HO.out lb A2 lb.length c2 rfl H2.out.len H2.out.room.1 (H2.out.on XP2.out).at_ XP2.out.size HLE2.out M HM.out ?_
          intro AP3 cp3 wp3 ho hg
          have hb : Below wk1.heap.size wk1 wp3 := below_appendp XP2.out HO.out hg (Nat.le_refl _)
          have XP3 := Lib.hid hb
          replace HO : Hid (OwnP wp3 wk1.heap.size (.slice AP3 M cp3) (la ++ lb)) := ho
          clear ho hg hb
          refine hK.out _ _ (HKS.out _ XP3.out) (fun hHeld5 => ?_)
          clear hK K hHeld3
          try simp only [Act.put, List.setIfInBounds_toArray, List.set_cons_zero, List.set_cons_succ]
          refine wpAnyH_ready (rs := [6, 10]) (by kernel_rfl) (by simp) ?_
          refine AllReadyH.cons rfl (fun K hK => ?_) (AllReadyH.cons rfl (fun K hK => ?_) AllReadyH.nil)
          · go_simp
            go_at_call 17
            refine (CP.out _ XP3.out AP3 M cp3 (roww_app H1.out H2.out XP3.out HO.out)).mono ?_
            rintro e wc4 ⟨B9, l9, c9, rfl, ht9, hb⟩
            obtain ⟨kw, hku, hkr⟩ := tree_back ht9
            have XC4 := Lib.hid (XP3.out.trans (hb.mono XP3.out.size))
            have HKU := Lib.hid hku
            have HKW := Lib.hid hkr
            clear ht9 hku hkr hb HO
            refine hK.out _ _ (HKS.out _ XC4.out) (fun hHeld6 => ?_)
            clear hK K hHeld5
            try simp only [Act.put, List.setIfInBounds_toArray, List.set_cons_zero, List.set_cons_succ]
            refine wpAnyH_take (i := 7) (oi := { dst := some 57, op := _, type := _, pos := _, after := _, guard := _ }) (v := .tuple #[.agg #[.slice B9 l9 c9], .int .i64 er1]) rfl (by kernel_rfl) (by kernel_rfl) (by kernel_rfl) (fun _ _ _ h => h) (Or.inl ⟨by rfl, fun w' hSw => ?_⟩) (by assumption) ?_
            · ((try dsimp only at hSw); go_simp)
            try simp only [Act.put, List.setIfInBounds_toArray, List.set_cons_zero, List.set_cons_succ]
            refine wpAnyH_take (i := 8) (oi := { dst := some 65, op := _, type := _, pos := _, after := _, guard := _ }) (v := .agg #[.slice B9 l9 c9]) rfl (by kernel_rfl) (by kernel_rfl) (by kernel_rfl) (fun _ _ _ h => h) (Or.inl ⟨by rfl, fun w' hSw => ?_⟩) (by assumption) ?_
            · ((try dsimp only at hSw); go_simp)
            try simp only [Act.put, List.setIfInBounds_toArray, List.set_cons_zero, List.set_cons_succ]
            refine wpAnyH_take (i := 9) (oi := { dst := some 66, op := _, type := _, pos := _, after := _, guard := _ }) (v := .int .i64 er1) rfl (by kernel_rfl) (by kernel_rfl) (by kernel_rfl) (fun _ _ _ h => h) (Or.inl ⟨by rfl, fun w' hSw => ?_⟩) (by assumption) ?_
            · ((try dsimp only at hSw); go_simp)
            try simp only [Act.put, List.setIfInBounds_toArray, List.set_cons_zero, List.set_cons_succ]
            refine wpAnyH_ready (rs := [10]) (by kernel_rfl) (by simp) ?_
            refine AllReadyH.cons rfl (fun K hK => ?_) AllReadyH.nil
            have hb : Below wc4.heap.size wc4 (wc4.alloc (.cells #[.slice none 0 0] 43)) := (Below.refl _ _).alloc (Nat.le_refl _) _
            have XA5 := Lib.hid (XC4.out.trans (hb.mono XC4.out.size))
            replace HKU := Lib.hid (tree_c.on HKU.out hb)
            have HG : Hid (TAt (wc4.alloc (.cells #[.slice none 0 0] 43)) wc4.heap.size none 0 0) := TAt.new_ wc4 none 0 0
            have HLG : Hid (wk1.heap.size ≤ wc4.heap.size) := XC4.out.size
            clear hb
            go_simp
            refine hK.out _ _ (HKS.out _ XA5.out) (fun hHeld10 => ?_)
            clear hK K hHeld6
            try simp only [Act.put, List.setIfInBounds_toArray, List.set_cons_zero, List.set_cons_succ]
            generalize hwn : (wc4.alloc (.cells #[.slice none 0 0] 43)) = wa5 at *
            clear hwn
            refine wpAnyH_ready (rs := [11]) (by kernel_rfl) (by simp) ?_
            refine AllReadyH.cons rfl (fun K hK => ?_) AllReadyH.nil
            have hg : wa5.grownBy (wa5.setCell ⟨wc4.heap.size, 0, none⟩ (.slice B9 l9 c9)) (some (wc4.heap.size)) := setCells_grown wa5 (wc4.heap.size) 0 [.slice B9 l9 c9]
            have hbs : Below wk1.heap.size wk1 (wa5.setCell ⟨wc4.heap.size, 0, none⟩ (.slice B9 l9 c9)) := below_set XA5.out HLG.out XA5.out.size
            have XT := Lib.hid hbs
            have HT9 : Hid (TrC (wa5.setCell ⟨wc4.heap.size, 0, none⟩ (.slice B9 l9 c9)) B9 l9 c9 kw) := tree_c.set HKU.out HG.out hg
            have HG9 : Hid (TAt (wa5.setCell ⟨wc4.heap.size, 0, none⟩ (.slice B9 l9 c9)) (wc4.heap.size) B9 l9 c9) := HG.out.set B9 l9 c9
            have m0 := HG.out.c0
            have mf0 := HG.out.fz 0
            clear hg hbs HKU HG
            go_simp
            refine hK.out _ _ (HKS.out _ XT.out) (fun hHeld11 => ?_)
            clear hK K hHeld10 m0 mf0
            try simp only [Act.put, List.setIfInBounds_toArray, List.set_cons_zero, List.set_cons_succ]
            generalize hwn : (wa5.setCell ⟨wc4.heap.size, 0, none⟩ (.slice B9 l9 c9)) = wt at *
            clear hwn
            refine wpAnyH_take (i := 12) (oi := { dst := some 10, op := _, type := _, pos := _, after := _, guard := _ }) (v := .int .i64 er1) rfl (by kernel_rfl) (by kernel_rfl) (by kernel_rfl) (fun _ _ _ h => h) (Or.inl ⟨by rfl, fun w' hSw => ?_⟩) (by assumption) ?_
            · ((try dsimp only at hSw); go_simp)
            try simp only [Act.put, List.setIfInBounds_toArray, List.set_cons_zero, List.set_cons_succ]
            refine wpAnyH_done (by kernel_rfl) ?_ _
            refine NoPanic.normal ?_
            go_wp2_with fail
            go_meet
            case rel => exact ⟨wc4.heap.size, B9, l9, c9, kw, rfl, rfl, ⟨HT9.out, HG9.out, HKW.out, XT.out⟩⟩
          · have hb : Below wp3.heap.size wp3 (wp3.alloc (.cells #[.slice none 0 0] 43)) := (Below.refl _ _).alloc (Nat.le_refl _) _
            have XA7 := Lib.hid (XP3.out.trans (hb.mono XP3.out.size))
            replace HO := Lib.hid (HO.out.kept hb)
            have HG : Hid (TAt (wp3.alloc (.cells #[.slice none 0 0] 43)) wp3.heap.size none 0 0) := TAt.new_ wp3 none 0 0
            have HLG : Hid (wk1.heap.size ≤ wp3.heap.size) := XP3.out.size
            clear hb
            go_simp
            refine hK.out _ _ (HKS.out _ XA7.out) (fun hHeld10 => ?_)
            clear hK K hHeld5
            try simp only [Act.put, List.setIfInBounds_toArray, List.set_cons_zero, List.set_cons_succ]
            generalize hwn : (wp3.alloc (.cells #[.slice none 0 0] 43)) = wa7 at *
            clear hwn
            refine wpAnyH_ready (rs := [6]) (by kernel_rfl) (by simp) ?_
            refine AllReadyH.cons rfl (fun K hK => ?_) AllReadyH.nil
            go_simp
            go_at_call 17
            refine (CP.out _ XA7.out AP3 M cp3 (roww_app H1.out H2.out XA7.out HO.out)).mono ?_
            rintro e wc8 ⟨B9, l9, c9, rfl, ht9, hb⟩
            obtain ⟨kw, hku, hkr⟩ := tree_back ht9
            have XC8 := Lib.hid (XA7.out.trans (hb.mono XA7.out.size))
            have HKU := Lib.hid hku
            have HKW := Lib.hid hkr
            replace HG := Lib.hid (HG.out.on hb)
            clear ht9 hku hkr hb HO
            refine hK.out _ _ (HKS.out _ XC8.out) (fun hHeld6 => ?_)
            clear hK K hHeld10
            try simp only [Act.put, List.setIfInBounds_toArray, List.set_cons_zero, List.set_cons_succ]
            refine wpAnyH_take (i := 7) (oi := { dst := some 57, op := _, type := _, pos := _, after := _, guard := _ }) (v := .tuple #[.agg #[.slice B9 l9 c9], .int .i64 er1]) rfl (by kernel_rfl) (by kernel_rfl) (by kernel_rfl) (fun _ _ _ h => h) (Or.inl ⟨by rfl, fun w' hSw => ?_⟩) (by assumption) ?_
            · ((try dsimp only at hSw); go_simp)
            try simp only [Act.put, List.setIfInBounds_toArray, List.set_cons_zero, List.set_cons_succ]
            refine wpAnyH_take (i := 8) (oi := { dst := some 65, op := _, type := _, pos := _, after := _, guard := _ }) (v := .agg #[.slice B9 l9 c9]) rfl (by kernel_rfl) (by kernel_rfl) (by kernel_rfl) (fun _ _ _ h => h) (Or.inl ⟨by rfl, fun w' hSw => ?_⟩) (by assumption) ?_
            · ((try dsimp only at hSw); go_simp)
            try simp only [Act.put, List.setIfInBounds_toArray, List.set_cons_zero, List.set_cons_succ]
            refine wpAnyH_take (i := 9) (oi := { dst := some 66, op := _, type := _, pos := _, after := _, guard := _ }) (v := .int .i64 er1) rfl (by kernel_rfl) (by kernel_rfl) (by kernel_rfl) (fun _ _ _ h => h) (Or.inl ⟨by rfl, fun w' hSw => ?_⟩) (by assumption) ?_
            · ((try dsimp only at hSw); go_simp)
            try simp only [Act.put, List.setIfInBounds_toArray, List.set_cons_zero, List.set_cons_succ]
            refine wpAnyH_ready (rs := [11]) (by kernel_rfl) (by simp) ?_
            refine AllReadyH.cons rfl (fun K hK => ?_) AllReadyH.nil
            have hg : wc8.grownBy (wc8.setCell ⟨wp3.heap.size, 0, none⟩ (.slice B9 l9 c9)) (some (wp3.heap.size)) := setCells_grown wc8 (wp3.heap.size) 0 [.slice B9 l9 c9]
            have hbs : Below wk1.heap.size wk1 (wc8.setCell ⟨wp3.heap.size, 0, none⟩ (.slice B9 l9 c9)) := below_set XC8.out HLG.out XC8.out.size
            have XT := Lib.hid hbs
            have HT9 : Hid (TrC (wc8.setCell ⟨wp3.heap.size, 0, none⟩ (.slice B9 l9 c9)) B9 l9 c9 kw) := tree_c.set HKU.out HG.out hg
            have HG9 : Hid (TAt (wc8.setCell ⟨wp3.heap.size, 0, none⟩ (.slice B9 l9 c9)) (wp3.heap.size) B9 l9 c9) := HG.out.set B9 l9 c9
            have m0 := HG.out.c0
            have mf0 := HG.out.fz 0
            clear hg hbs HKU HG
            go_simp
            refine hK.out _ _ (HKS.out _ XT.out) (fun hHeld11 => ?_)
            clear hK K hHeld6 m0 mf0
            try simp only [Act.put, List.setIfInBounds_toArray, List.set_cons_zero, List.set_cons_succ]
            generalize hwn : (wc8.setCell ⟨wp3.heap.size, 0, none⟩ (.slice B9 l9 c9)) = wt at *
            clear hwn
            refine wpAnyH_take (i := 12) (oi := { dst := some 10, op := _, type := _, pos := _, after := _, guard := _ }) (v := .int .i64 er1) rfl (by kernel_rfl) (by kernel_rfl) (by kernel_rfl) (fun _ _ _ h => h) (Or.inl ⟨by rfl, fun w' hSw => ?_⟩) (by assumption) ?_
            · ((try dsimp only at hSw); go_simp)
            try simp only [Act.put, List.setIfInBounds_toArray, List.set_cons_zero, List.set_cons_succ]
            refine wpAnyH_done (by kernel_rfl) ?_ _
            refine NoPanic.normal ?_
            go_wp2_with fail
            go_meet
            case rel => exact ⟨wp3.heap.size, B9, l9, c9, kw, rfl, rfl, ⟨HT9.out, HG9.out, HKW.out, XT.out⟩⟩
        · have hb : Below wp2.heap.size wp2 (wp2.alloc (.cells #[.slice none 0 0] 43)) := (Below.refl _ _).alloc (Nat.le_refl _) _
          have XA10 := Lib.hid (XP2.out.trans (hb.mono XP2.out.size))
          replace HO := Lib.hid (HO.out.kept hb)
          have HG : Hid (TAt (wp2.alloc (.cells #[.slice none 0 0] 43)) wp2.heap.size none 0 0) := TAt.new_ wp2 none 0 0
          have HLG : Hid (wk1.heap.size ≤ wp2.heap.size) := XP2.out.size
          clear hb
          go_simp
          refine hK.out _ _ (HKS.out _ XA10.out) (fun hHeld10 => ?_)
          clear hK K hHeld3
          try simp only [Act.put, List.setIfInBounds_toArray, List.set_cons_zero, List.set_cons_succ]
          generalize hwn : (wp2.alloc (.cells #[.slice none 0 0] 43)) = wa10 at *
          clear hwn
          refine wpAnyH_ready (rs := [5]) (by kernel_rfl) (by simp) ?_
          refine AllReadyH.cons rfl (fun K hK => ?_) AllReadyH.nil
          refine step_append_prims 63 rfl rfl _ _ rfl wk1.heap.size (.slice AP2 N cp2) la rfl HO.out lb A2 lb.length c2 rfl H2.out.len H2.out.room.1 (H2.out.on XA10.out).at_ XA10.out.size HLE2.out M HM.out ?_
          intro AP11 cp11 wp11 ho hg
          have hb : Below wk1.heap.size wk1 wp11 := below_appendp XA10.out HO.out hg (Nat.le_refl _)
          have XP11 := Lib.hid hb
          replace HG := Lib.hid (HG.out.grown hg (own_not_tree HO.out HG.out))
          replace HO : Hid (OwnP wp11 wk1.heap.size (.slice AP11 M cp11) (la ++ lb)) := ho
          clear ho hg hb
          refine hK.out _ _ (HKS.out _ XP11.out) (fun hHeld5 => ?_)
          clear hK K hHeld10
          try simp only [Act.put, List.setIfInBounds_toArray, List.set_cons_zero, List.set_cons_succ]
          refine wpAnyH_ready (rs := [6]) (by kernel_rfl) (by simp) ?_
          refine AllReadyH.cons rfl (fun K hK => ?_) AllReadyH.nil
          go_simp
          go_at_call 17
          refine (CP.out _ XP11.out AP11 M cp11 (roww_app H1.out H2.out XP11.out HO.out)).mono ?_
          rintro e wc12 ⟨B9, l9, c9, rfl, ht9, hb⟩
          obtain ⟨kw, hku, hkr⟩ := tree_back ht9
          have XC12 := Lib.hid (XP11.out.trans (hb.mono XP11.out.size))
          have HKU := Lib.hid hku
          have HKW := Lib.hid hkr
          replace HG := Lib.hid (HG.out.on hb)
          clear ht9 hku hkr hb HO
          refine hK.out _ _ (HKS.out _ XC12.out) (fun hHeld6 => ?_)
          clear hK K hHeld5
          try simp only [Act.put, List.setIfInBounds_toArray, List.set_cons_zero, List.set_cons_succ]
          refine wpAnyH_take (i := 7) (oi := { dst := some 57, op := _, type := _, pos := _, after := _, guard := _ }) (v := .tuple #[.agg #[.slice B9 l9 c9], .int .i64 er1]) rfl (by kernel_rfl) (by kernel_rfl) (by kernel_rfl) (fun _ _ _ h => h) (Or.inl ⟨by rfl, fun w' hSw => ?_⟩) (by assumption) ?_
          · ((try dsimp only at hSw); go_simp)
          try simp only [Act.put, List.setIfInBounds_toArray, List.set_cons_zero, List.set_cons_succ]
          refine wpAnyH_take (i := 8) (oi := { dst := some 65, op := _, type := _, pos := _, after := _, guard := _ }) (v := .agg #[.slice B9 l9 c9]) rfl (by kernel_rfl) (by kernel_rfl) (by kernel_rfl) (fun _ _ _ h => h) (Or.inl ⟨by rfl, fun w' hSw => ?_⟩) (by assumption) ?_
          · ((try dsimp only at hSw); go_simp)
          try simp only [Act.put, List.setIfInBounds_toArray, List.set_cons_zero, List.set_cons_succ]
          refine wpAnyH_take (i := 9) (oi := { dst := some 66, op := _, type := _, pos := _, after := _, guard := _ }) (v := .int .i64 er1) rfl (by kernel_rfl) (by kernel_rfl) (by kernel_rfl) (fun _ _ _ h => h) (Or.inl ⟨by rfl, fun w' hSw => ?_⟩) (by assumption) ?_
          · ((try dsimp only at hSw); go_simp)
          try simp only [Act.put, List.setIfInBounds_toArray, List.set_cons_zero, List.set_cons_succ]
          refine wpAnyH_ready (rs := [11]) (by kernel_rfl) (by simp) ?_
          refine AllReadyH.cons rfl (fun K hK => ?_) AllReadyH.nil
          have hg : wc12.grownBy (wc12.setCell ⟨wp2.heap.size, 0, none⟩ (.slice B9 l9 c9)) (some (wp2.heap.size)) := setCells_grown wc12 (wp2.heap.size) 0 [.slice B9 l9 c9]
          have hbs : Below wk1.heap.size wk1 (wc12.setCell ⟨wp2.heap.size, 0, none⟩ (.slice B9 l9 c9)) := below_set XC12.out HLG.out XC12.out.size
          have XT := Lib.hid hbs
          have HT9 : Hid (TrC (wc12.setCell ⟨wp2.heap.size, 0, none⟩ (.slice B9 l9 c9)) B9 l9 c9 kw) := tree_c.set HKU.out HG.out hg
          have HG9 : Hid (TAt (wc12.setCell ⟨wp2.heap.size, 0, none⟩ (.slice B9 l9 c9)) (wp2.heap.size) B9 l9 c9) := HG.out.set B9 l9 c9
          have m0 := HG.out.c0
          have mf0 := HG.out.fz 0
          clear hg hbs HKU HG
          go_simp
          refine hK.out _ _ (HKS.out _ XT.out) (fun hHeld11 => ?_)
          clear hK K hHeld6 m0 mf0
          try simp only [Act.put, List.setIfInBounds_toArray, List.set_cons_zero, List.set_cons_succ]
          generalize hwn : (wc12.setCell ⟨wp2.heap.size, 0, none⟩ (.slice B9 l9 c9)) = wt at *
          clear hwn
          refine wpAnyH_take (i := 12) (oi := { dst := some 10, op := _, type := _, pos := _, after := _, guard := _ }) (v := .int .i64 er1) rfl (by kernel_rfl) (by kernel_rfl) (by kernel_rfl) (fun _ _ _ h => h) (Or.inl ⟨by rfl, fun w' hSw => ?_⟩) (by assumption) ?_
          · ((try dsimp only at hSw); go_simp)
          try simp only [Act.put, List.setIfInBounds_toArray, List.set_cons_zero, List.set_cons_succ]
          refine wpAnyH_done (by kernel_rfl) ?_ _
          refine NoPanic.normal ?_
          go_wp2_with fail
          go_meet
          case rel => exact ⟨wp2.heap.size, B9, l9, c9, kw, rfl, rfl, ⟨HT9.out, HG9.out, HKW.out, XT.out⟩⟩
      · have hb : Below we1.heap.size we1 (we1.alloc (.cells #[.slice none 0 0] 43)) := (Below.refl _ _).alloc (Nat.le_refl _) _
        have XA14 := Lib.hid (XE1.out.trans (hb.mono XE1.out.size))
        replace HO := Lib.hid (HO.out.kept hb)
        have HG : Hid (TAt (we1.alloc (.cells #[.slice none 0 0] 43)) we1.heap.size none 0 0) := TAt.new_ we1 none 0 0
        have HLG : Hid (wk1.heap.size ≤ we1.heap.size) := XE1.out.size
        clear hb
        go_simp
        refine hK.out _ _ (HKS.out _ XA14.out) (fun hHeld10 => ?_)
        clear hK K hHeld1
        try simp only [Act.put, List.setIfInBounds_toArray, List.set_cons_zero, List.set_cons_succ]
        generalize hwn : (we1.alloc (.cells #[.slice none 0 0] 43)) = wa14 at *
        clear hwn
        refine wpAnyH_ready (rs := [3]) (by kernel_rfl) (by simp) ?_
        refine AllReadyH.cons rfl (fun K hK => ?_) AllReadyH.nil
        refine step_append_prims 61 rfl rfl _ _ rfl wk1.heap.size (.slice (some ⟨wD.heap.size, 0, none⟩) 0 0) [] rfl HO.out la A1 la.length c1 rfl H1.out.len H1.out.room.1 (H1.out.on XA14.out).at_ XA14.out.size HLE1.out N HN.out ?_
        intro AP15 cp15 wp15 ho hg
        have hb : Below wk1.heap.size wk1 wp15 := below_appendp XA14.out HO.out hg (Nat.le_refl _)
        have XP15 := Lib.hid hb
        replace HG := Lib.hid (HG.out.grown hg (own_not_tree HO.out HG.out))
        replace HO : Hid (OwnP wp15 wk1.heap.size (.slice AP15 N cp15) la) := ho
        clear ho hg hb
        refine hK.out _ _ (HKS.out _ XP15.out) (fun hHeld3 => ?_)
        clear hK K hHeld10
        try simp only [Act.put, List.setIfInBounds_toArray, List.set_cons_zero, List.set_cons_succ]
        refine wpAnyH_ready (rs := [5]) (by kernel_rfl) (by simp) ?_
        refine AllReadyH.cons rfl (fun K hK => ?_) AllReadyH.nil
        refine step_append_prims 63 rfl rfl _ _ rfl wk1.heap.size (.slice AP15 N cp15) la rfl HO.out lb A2 lb.length c2 rfl H2.out.len H2.out.room.1 (H2.out.on XP15.out).at_ XP15.out.size HLE2.out M HM.out ?_
        intro AP16 cp16 wp16 ho hg
        have hb : Below wk1.heap.size wk1 wp16 := below_appendp XP15.out HO.out hg (Nat.le_refl _)
        have XP16 := Lib.hid hb
        replace HG := Lib.hid (HG.out.grown hg (own_not_tree HO.out HG.out))
        replace HO : Hid (OwnP wp16 wk1.heap.size (.slice AP16 M cp16) (la ++ lb)) := ho
        clear ho hg hb
        refine hK.out _ _ (HKS.out _ XP16.out) (fun hHeld5 => ?_)
        clear hK K hHeld3
        try simp only [Act.put, List.setIfInBounds_toArray, List.set_cons_zero, List.set_cons_succ]
        refine wpAnyH_ready (rs := [6]) (by kernel_rfl) (by simp) ?_
        refine AllReadyH.cons rfl (fun K hK => ?_) AllReadyH.nil
        go_simp
        go_at_call 17
        refine (CP.out _ XP16.out AP16 M cp16 (roww_app H1.out H2.out XP16.out HO.out)).mono ?_
        rintro e wc17 ⟨B9, l9, c9, rfl, ht9, hb⟩
        obtain ⟨kw, hku, hkr⟩ := tree_back ht9
        have XC17 := Lib.hid (XP16.out.trans (hb.mono XP16.out.size))
        have HKU := Lib.hid hku
        have HKW := Lib.hid hkr
        replace HG := Lib.hid (HG.out.on hb)
        clear ht9 hku hkr hb HO
        refine hK.out _ _ (HKS.out _ XC17.out) (fun hHeld6 => ?_)
        clear hK K hHeld5
        try simp only [Act.put, List.setIfInBounds_toArray, List.set_cons_zero, List.set_cons_succ]
        refine wpAnyH_take (i := 7) (oi := { dst := some 57, op := _, type := _, pos := _, after := _, guard := _ }) (v := .tuple #[.agg #[.slice B9 l9 c9], .int .i64 er1]) rfl (by kernel_rfl) (by kernel_rfl) (by kernel_rfl) (fun _ _ _ h => h) (Or.inl ⟨by rfl, fun w' hSw => ?_⟩) (by assumption) ?_
        · ((try dsimp only at hSw); go_simp)
        try simp only [Act.put, List.setIfInBounds_toArray, List.set_cons_zero, List.set_cons_succ]
        refine wpAnyH_take (i := 8) (oi := { dst := some 65, op := _, type := _, pos := _, after := _, guard := _ }) (v := .agg #[.slice B9 l9 c9]) rfl (by kernel_rfl) (by kernel_rfl) (by kernel_rfl) (fun _ _ _ h => h) (Or.inl ⟨by rfl, fun w' hSw => ?_⟩) (by assumption) ?_
        · ((try dsimp only at hSw); go_simp)
        try simp only [Act.put, List.setIfInBounds_toArray, List.set_cons_zero, List.set_cons_succ]
        refine wpAnyH_take (i := 9) (oi := { dst := some 66, op := _, type := _, pos := _, after := _, guard := _ }) (v := .int .i64 er1) rfl (by kernel_rfl) (by kernel_rfl) (by kernel_rfl) (fun _ _ _ h => h) (Or.inl ⟨by rfl, fun w' hSw => ?_⟩) (by assumption) ?_
        · ((try dsimp only at hSw); go_simp)
        try simp only [Act.put, List.setIfInBounds_toArray, List.set_cons_zero, List.set_cons_succ]
        refine wpAnyH_ready (rs := [11]) (by kernel_rfl) (by simp) ?_
        refine AllReadyH.cons rfl (fun K hK => ?_) AllReadyH.nil
        have hg : wc17.grownBy (wc17.setCell ⟨we1.heap.size, 0, none⟩ (.slice B9 l9 c9)) (some (we1.heap.size)) := setCells_grown wc17 (we1.heap.size) 0 [.slice B9 l9 c9]
        have hbs : Below wk1.heap.size wk1 (wc17.setCell ⟨we1.heap.size, 0, none⟩ (.slice B9 l9 c9)) := below_set XC17.out HLG.out XC17.out.size
        have XT := Lib.hid hbs
        have HT9 : Hid (TrC (wc17.setCell ⟨we1.heap.size, 0, none⟩ (.slice B9 l9 c9)) B9 l9 c9 kw) := tree_c.set HKU.out HG.out hg
        have HG9 : Hid (TAt (wc17.setCell ⟨we1.heap.size, 0, none⟩ (.slice B9 l9 c9)) (we1.heap.size) B9 l9 c9) := HG.out.set B9 l9 c9
        have m0 := HG.out.c0
        have mf0 := HG.out.fz 0
        clear hg hbs HKU HG
        go_simp
        refine hK.out _ _ (HKS.out _ XT.out) (fun hHeld11 => ?_)
        clear hK K hHeld6 m0 mf0
        try simp only [Act.put, List.setIfInBounds_toArray, List.set_cons_zero, List.set_cons_succ]
        generalize hwn : (wc17.setCell ⟨we1.heap.size, 0, none⟩ (.slice B9 l9 c9)) = wt at *
        clear hwn
        refine wpAnyH_take (i := 12) (oi := { dst := some 10, op := _, type := _, pos := _, after := _, guard := _ }) (v := .int .i64 er1) rfl (by kernel_rfl) (by kernel_rfl) (by kernel_rfl) (fun _ _ _ h => h) (Or.inl ⟨by rfl, fun w' hSw => ?_⟩) (by assumption) ?_
        · ((try dsimp only at hSw); go_simp)
        try simp only [Act.put, List.setIfInBounds_toArray, List.set_cons_zero, List.set_cons_succ]
        refine wpAnyH_done (by kernel_rfl) ?_ _
        refine NoPanic.normal ?_
        go_wp2_with fail
        go_meet
        case rel => exact ⟨we1.heap.size, B9, l9, c9, kw, rfl, rfl, ⟨HT9.out, HG9.out, HKW.out, XT.out⟩⟩
    · have hb : Below wD.heap.size wD (wD.alloc (.cells #[.slice none 0 0] 43)) := (Below.refl _ _).alloc (Nat.le_refl _) _
      have XA19 := Lib.hid (XB0.out.trans (hb.mono XB0.out.size))
      have HG : Hid (TAt (wD.alloc (.cells #[.slice none 0 0] 43)) wD.heap.size none 0 0) := TAt.new_ wD none 0 0
      have HLG : Hid (wk1.heap.size ≤ wD.heap.size) := XB0.out.size
      clear hb
      go_simp
      refine hK.out _ _ (HKS.out _ XA19.out) (fun hHeld10 => ?_)
      clear hK K hHeld
      try simp only [Act.put, List.setIfInBounds_toArray, List.set_cons_zero, List.set_cons_succ]
      generalize hwn : (wD.alloc (.cells #[.slice none 0 0] 43)) = wa19 at *
      clear hwn
      refine wpAnyH_ready (rs := [1]) (by kernel_rfl) (by simp) ?_
      refine AllReadyH.cons rfl (fun K hK => ?_) AllReadyH.nil
      have hb : Below wa19.heap.size wa19 (wa19.alloc (.cells #[] 33)) := (Below.refl _ _).alloc (Nat.le_refl _) _
      have XE20 := Lib.hid (XA19.out.trans (hb.mono XA19.out.size))
      have HO := Lib.hid (own_madep wa19 wk1.heap.size XA19.out.size)
      replace HG := Lib.hid (HG.out.on hb)
      clear hb
      go_simp
      refine hK.out _ _ (HKS.out _ XE20.out) (fun hHeld1 => ?_)
      clear hK K hHeld10
      try simp only [Act.put, List.setIfInBounds_toArray, List.set_cons_zero, List.set_cons_succ]
      generalize hwn : (wa19.alloc (.cells #[] 33)) = we20 at *
      clear hwn
      refine wpAnyH_ready (rs := [3]) (by kernel_rfl) (by simp) ?_
      refine AllReadyH.cons rfl (fun K hK => ?_) AllReadyH.nil
      refine step_append_prims 61 rfl rfl _ _ rfl wk1.heap.size (.slice (some ⟨wa19.heap.size, 0, none⟩) 0 0) [] rfl HO.out la A1 la.length c1 rfl H1.out.len H1.out.room.1 (H1.out.on XE20.out).at_ XE20.out.size HLE1.out N HN.out ?_
      intro AP21 cp21 wp21 ho hg
      have hb : Below wk1.heap.size wk1 wp21 := below_appendp XE20.out HO.out hg (Nat.le_refl _)
      have XP21 := Lib.hid hb
      replace HG := Lib.hid (HG.out.grown hg (own_not_tree HO.out HG.out))
      replace HO : Hid (OwnP wp21 wk1.heap.size (.slice AP21 N cp21) la) := ho
      clear ho hg hb
      refine hK.out _ _ (HKS.out _ XP21.out) (fun hHeld3 => ?_)
      clear hK K hHeld1
      try simp only [Act.put, List.setIfInBounds_toArray, List.set_cons_zero, List.set_cons_succ]
      refine wpAnyH_ready (rs := [5]) (by kernel_rfl) (by simp) ?_
      refine AllReadyH.cons rfl (fun K hK => ?_) AllReadyH.nil
      refine step_append_prims 63 rfl rfl _ _ rfl wk1.heap.size (.slice AP21 N cp21) la rfl HO.out lb A2 lb.length c2 rfl H2.out.len H2.out.room.1 (H2.out.on XP21.out).at_ XP21.out.size HLE2.out M HM.out ?_
      intro AP22 cp22 wp22 ho hg
      have hb : Below wk1.heap.size wk1 wp22 := below_appendp XP21.out HO.out hg (Nat.le_refl _)
      have XP22 := Lib.hid hb
      replace HG := Lib.hid (HG.out.grown hg (own_not_tree HO.out HG.out))
      replace HO : Hid (OwnP wp22 wk1.heap.size (.slice AP22 M cp22) (la ++ lb)) := ho
      clear ho hg hb
      refine hK.out _ _ (HKS.out _ XP22.out) (fun hHeld5 => ?_)
      clear hK K hHeld3
      try simp only [Act.put, List.setIfInBounds_toArray, List.set_cons_zero, List.set_cons_succ]
      refine wpAnyH_ready (rs := [6]) (by kernel_rfl) (by simp) ?_
      refine AllReadyH.cons rfl (fun K hK => ?_) AllReadyH.nil
      go_simp
      go_at_call 17
      refine (CP.out _ XP22.out AP22 M cp22 (roww_app H1.out H2.out XP22.out HO.out)).mono ?_
      rintro e wc23 ⟨B9, l9, c9, rfl, ht9, hb⟩
      obtain ⟨kw, hku, hkr⟩ := tree_back ht9
      have XC23 := Lib.hid (XP22.out.trans (hb.mono XP22.out.size))
      have HKU := Lib.hid hku
      have HKW := Lib.hid hkr
      replace HG := Lib.hid (HG.out.on hb)
      clear ht9 hku hkr hb HO
      refine hK.out _ _ (HKS.out _ XC23.out) (fun hHeld6 => ?_)
      clear hK K hHeld5
      try simp only [Act.put, List.setIfInBounds_toArray, List.set_cons_zero, List.set_cons_succ]
      refine wpAnyH_take (i := 7) (oi := { dst := some 57, op := _, type := _, pos := _, after := _, guard := _ }) (v := .tuple #[.agg #[.slice B9 l9 c9], .int .i64 er1]) rfl (by kernel_rfl) (by kernel_rfl) (by kernel_rfl) (fun _ _ _ h => h) (Or.inl ⟨by rfl, fun w' hSw => ?_⟩) (by assumption) ?_
      · ((try dsimp only at hSw); go_simp)
      try simp only [Act.put, List.setIfInBounds_toArray, List.set_cons_zero, List.set_cons_succ]
      refine wpAnyH_take (i := 8) (oi := { dst := some 65, op := _, type := _, pos := _, after := _, guard := _ }) (v := .agg #[.slice B9 l9 c9]) rfl (by kernel_rfl) (by kernel_rfl) (by kernel_rfl) (fun _ _ _ h => h) (Or.inl ⟨by rfl, fun w' hSw => ?_⟩) (by assumption) ?_
      · ((try dsimp only at hSw); go_simp)
      try simp only [Act.put, List.setIfInBounds_toArray, List.set_cons_zero, List.set_cons_succ]
      refine wpAnyH_take (i := 9) (oi := { dst := some 66, op := _, type := _, pos := _, after := _, guard := _ }) (v := .int .i64 er1) rfl (by kernel_rfl) (by kernel_rfl) (by kernel_rfl) (fun _ _ _ h => h) (Or.inl ⟨by rfl, fun w' hSw => ?_⟩) (by assumption) ?_
      · ((try dsimp only at hSw); go_simp)
      try simp only [Act.put, List.setIfInBounds_toArray, List.set_cons_zero, List.set_cons_succ]
      refine wpAnyH_ready (rs := [11]) (by kernel_rfl) (by simp) ?_
      refine AllReadyH.cons rfl (fun K hK => ?_) AllReadyH.nil
      have hg : wc23.grownBy (wc23.setCell ⟨wD.heap.size, 0, none⟩ (.slice B9 l9 c9)) (some (wD.heap.size)) := setCells_grown wc23 (wD.heap.size) 0 [.slice B9 l9 c9]
      have hbs : Below wk1.heap.size wk1 (wc23.setCell ⟨wD.heap.size, 0, none⟩ (.slice B9 l9 c9)) := below_set XC23.out HLG.out XC23.out.size
      have XT := Lib.hid hbs
      have HT9 : Hid (TrC (wc23.setCell ⟨wD.heap.size, 0, none⟩ (.slice B9 l9 c9)) B9 l9 c9 kw) := tree_c.set HKU.out HG.out hg
      have HG9 : Hid (TAt (wc23.setCell ⟨wD.heap.size, 0, none⟩ (.slice B9 l9 c9)) (wD.heap.size) B9 l9 c9) := HG.out.set B9 l9 c9
      have m0 := HG.out.c0
      have mf0 := HG.out.fz 0
      clear hg hbs HKU HG
      go_simp
      refine hK.out _ _ (HKS.out _ XT.out) (fun hHeld11 => ?_)
      clear hK K hHeld6 m0 mf0
      try simp only [Act.put, List.setIfInBounds_toArray, List.set_cons_zero, List.set_cons_succ]
      generalize hwn : (wc23.setCell ⟨wD.heap.size, 0, none⟩ (.slice B9 l9 c9)) = wt at *
      clear hwn
      refine wpAnyH_take (i := 12) (oi := { dst := some 10, op := _, type := _, pos := _, after := _, guard := _ }) (v := .int .i64 er1) rfl (by kernel_rfl) (by kernel_rfl) (by kernel_rfl) (fun _ _ _ h => h) (Or.inl ⟨by rfl, fun w' hSw => ?_⟩) (by assumption) ?_
      · ((try dsimp only at hSw); go_simp)
      try simp only [Act.put, List.setIfInBounds_toArray, List.set_cons_zero, List.set_cons_succ]
      refine wpAnyH_done (by kernel_rfl) ?_ _
      refine NoPanic.normal ?_
      go_wp2_with fail
      go_meet
      case rel => exact ⟨wD.heap.size, B9, l9, c9, kw, rfl, rfl, ⟨HT9.out, HG9.out, HKW.out, XT.out⟩⟩
  case rest =>
    obtain ⟨g2, B2, l2, c4, ku, rfl, rfl, HQ⟩ := hcut
    have hbq := HQ.out.2.2.2
    have hg2 : HeldT wc g2 B2 l2 c4 ku := ⟨HQ.out.1, HQ.out.2.1⟩
    have KR := Lib.hid HQ.out.2.2.1
    clear HKS CP HDR HN HM HLE1 HLE2
    replace H1 := Lib.hid (H1.out.on hbq)
    replace H2 := Lib.hid (H2.out.on hbq)
    replace Ht1 := Lib.hid (Ht1.out.on hbq)
    replace HA := Lib.hid (HA.out.trans (hbq.mono HA.out.size))
    replace HT := Lib.hid (Tabs.on HT.out hbq)
    have Hg2 := Lib.hid hg2
    clear HQ hbq hg2
    generalize wc = wg2 at *
    by_cases h0 : er0 = 0
    · subst h0
      by_cases h1 : er1 = 0
      · subst h1
        have hku := KR.out rfl
        subst hku
        have hln : ku.length ≤ 400 := by
          have h8 := apAll_len10 HAP.out
          rw [pkeys_len] at h8
          have h9 := HAB.out
          have h7 := KL.out
          omega
        have HKL := Lib.hid hln
        have hca := comes_len (pkeys la) (ltk_row L1.out)
        have hcb := comes_len (pkeys lb) (ltk_row L2.out)
        rw [pkeys_len] at hca hcb
        have HC : Hid (comesN (pkeys la) + comesN (pkeys lb) ≤ 1440) := by show _ ≤ _; have h9 := HL.out; omega
        clear hln hca hcb KR
        go_wp2_with fail
        refine (seqrows_any A1 la _ c1 A2 _ c2 lb _ H1.out H2.out L1.out L2.out (by have := HL.out; omega) (by have := HL.out; omega) HT.out).mono ?_
        rintro e w3 ⟨A3, n3, d3, l3, A4, n4, d4, l4, er3, rfl, hr, hb⟩
        replace H1 := Lib.hid (H1.out.on hb)
        replace H2 := Lib.hid (H2.out.on hb)
        replace Ht1 := Lib.hid (Ht1.out.on hb)
        replace Hg2 := Lib.hid (Hg2.out.on hb)
        replace HA := Lib.hid (HA.out.trans (hb.mono HA.out.size))
        replace HT := Lib.hid (Tabs.on HT.out hb)
        have H3 := Lib.hid hr.out.1
        have H4 := Lib.hid hr.out.2.1
        have E1 := Lib.hid hr.out.2.2
        clear hr hb
        by_cases h3 : er3 = 0
        · subst h3
          have hrs := rows_same (pkeys la) (b := pkeys lb) KW.out (fun k hk => by have h9 := KZ.out k hk; have h8 := HC.out; omega) (by have h8 := HC.out; omega) (by rw [← keys_app]; exact HAP.out) E1.out
          have hap3 : apAll kt (pkeys (l3 ++ l4)) = (0, ku) := by rw [keys_app]; exact hrs.1
          have hlt := rows_lt _ (ltk_row L1.out) (ltk_row L2.out) E1.out
          have HLB3 : Hid (∀ z ∈ l3 ++ l4, LtK z.key) := fun z hz => (List.mem_append.1 hz).elim (ltk_keys rfl hlt.1 z) (ltk_keys rfl hlt.2.1 z)
          have HAB3 : Hid ((l3 ++ l4).length ≤ 30) := by
            show _ ≤ _
            have h8 := hlt.2.2.1
            have h7 := hlt.2.2.2
            rw [pkeys_len, pkeys_len] at h8 h7
            rw [List.length_append]
            have h9 := HL.out
            omega
          have HAP3 := Lib.hid hap3
          clear hrs hap3 hlt E1
          go_upto_region 10 with (fail)
          have HKS : Hid (∀ W, Below w3.heap.size w3 W → W.cell? ⟨g1, 0, none⟩ = some (.slice B1 l1 c3)) := fun W hW => (Ht1.out.2.on hW).c0
          have CP := Lib.hid (all_c Ht1.out.1 KW.out KL.out (l3 ++ l4) HLB3.out HAB3.out HT.out HAP3.out)
          have HDR : Hid (Below w3.heap.size w3 w3.drew) := (Below.refl _ _).drew
          obtain ⟨N, hN⟩ : ∃ N, N = ([] : List Pm).length + l3.length := ⟨_, rfl⟩
          obtain ⟨M, hM⟩ : ∃ M, M = l3.length + l4.length := ⟨_, rfl⟩
          have HN := Lib.hid hN
          have HM := Lib.hid hM
          have HLE1 : Hid (([] : List Pm).length + l3.length ≤ 100000) := by show _ ≤ _; have h9 := HAB3.out; simp only [List.length_append] at h9; simp only [List.length_nil]; omega
          have HLE2 : Hid (l3.length + l4.length ≤ 100000) := by show _ ≤ _; have h9 := HAB3.out; simp only [List.length_append] at h9; omega
          clear hN hM
          go_upto_region 10 with (fail)
          go_cut [14, 15] from 20 (fun pt pe wx => ∃ (g9 : Nat) (B9 : Option Addr) (l9 c9 : Nat) (kw : List PF), pt = .pointer (some ⟨g9, 0, none⟩) ∧ pe = .int .i64 (0 : Int) ∧ Hid (TrC wx B9 l9 c9 kw ∧ TAt wx g9 B9 l9 c9 ∧ ((0 : Int) = (0 : Int) → kw = ku) ∧ Below w3.heap.size w3 wx))
          case first =>
            clear KZ
            refine wp_region_noPanic ?_
            refine wp_region_held_drew (S := (fun w' => w'.cell? ⟨g1, 0, none⟩ = some (.slice B1 l1 c3))) (by kernel_rfl) (HKS.out _ HDR.out) (fun hHeld => ?_)
            refine wpAnyH_take (i := 0) (oi := { dst := some 84, op := _, type := _, pos := _, after := _, guard := _ }) (v := .agg #[.slice B1 l1 c3]) rfl (by kernel_rfl) (by kernel_rfl) (by kernel_rfl) (fun _ _ _ h => h) (Or.inl ⟨by rfl, fun w' hSw => ?_⟩) (by assumption) ?_
            · ((try dsimp only at hSw); go_simp)
            try simp only [Act.put, List.setIfInBounds_toArray, List.set_cons_zero, List.set_cons_succ]
            refine wpAnyH_take (i := 2) (oi := { dst := some 86, op := _, type := _, pos := _, after := _, guard := _ }) (v := .slice A3 n3 d3) rfl (by kernel_rfl) (by kernel_rfl) (by kernel_rfl) (fun _ _ _ h => h) (Or.inl ⟨by rfl, fun w' hSw => ?_⟩) (by assumption) ?_
            · ((try dsimp only at hSw); go_simp)
            try simp only [Act.put, List.setIfInBounds_toArray, List.set_cons_zero, List.set_cons_succ]
            refine wpAnyH_take (i := 4) (oi := { dst := some 88, op := _, type := _, pos := _, after := _, guard := _ }) (v := .slice A4 n4 d4) rfl (by kernel_rfl) (by kernel_rfl) (by kernel_rfl) (fun _ _ _ h => h) (Or.inl ⟨by rfl, fun w' hSw => ?_⟩) (by assumption) ?_
            · ((try dsimp only at hSw); go_simp)
            try simp only [Act.put, List.setIfInBounds_toArray, List.set_cons_zero, List.set_cons_succ]
            have XB0 := Lib.hid HDR.out
            generalize hwD : w3.drew = wD at *
            clear hwD HDR
            refine wpAnyH_ready (rs := [1, 10]) (by kernel_rfl) (by simp) ?_
            refine AllReadyH.cons rfl (fun K hK => ?_) (AllReadyH.cons rfl (fun K hK => ?_) AllReadyH.nil)
            · have hb : Below wD.heap.size wD (wD.alloc (.cells #[] 33)) := (Below.refl _ _).alloc (Nat.le_refl _) _
              have XE1 := Lib.hid (XB0.out.trans (hb.mono XB0.out.size))
              have HO := Lib.hid (own_madep wD w3.heap.size XB0.out.size)
              clear hb
              go_simp
              refine hK.out _ _ (HKS.out _ XE1.out) (fun hHeld1 => ?_)
              clear hK K hHeld
              try simp only [Act.put, List.setIfInBounds_toArray, List.set_cons_zero, List.set_cons_succ]
              generalize hwn : (wD.alloc (.cells #[] 33)) = we1 at *
              clear hwn
              refine wpAnyH_ready (rs := [3, 10]) (by kernel_rfl) (by simp) ?_
              refine AllReadyH.cons rfl (fun K hK => ?_) (AllReadyH.cons rfl (fun K hK => ?_) AllReadyH.nil)
              · refine step_append_prims 87 rfl rfl _ _ rfl w3.heap.size (.slice (some ⟨wD.heap.size, 0, none⟩) 0 0) [] rfl HO.out l3 A3 n3 d3 rfl H3.out.len H3.out.room.1 (H3.out.on XE1.out).at_ XE1.out.size HLE1.out N HN.out ?_
                intro AP2 cp2 wp2 ho hg
                have hb : Below w3.heap.size w3 wp2 := below_appendp XE1.out HO.out hg (Nat.le_refl _)
                have XP2 := Lib.hid hb
                replace HO : Hid (OwnP wp2 w3.heap.size (.slice AP2 N cp2) l3) := ho
                clear ho hg hb
                refine hK.out _ _ (HKS.out _ XP2.out) (fun hHeld3 => ?_)
                clear hK K hHeld1
                try simp only [Act.put, List.setIfInBounds_toArray, List.set_cons_zero, List.set_cons_succ]
                refine wpAnyH_ready (rs := [5, 10]) (by kernel_rfl) (by simp) ?_
                refine AllReadyH.cons rfl (fun K hK => ?_) (AllReadyH.cons rfl (fun K hK => ?_) AllReadyH.nil)
                · refine step_append_prims 89 rfl rfl _ _ rfl w3.heap.size (.slice AP2 N cp2) l3 rfl HO.out l4 A4 n4 d4 rfl H4.out.len H4.out.room.1 (H4.out.on XP2.out).at_ XP2.out.size HLE2.out M HM.out ?_
                  intro AP3 cp3 wp3 ho hg
                  have hb : Below w3.heap.size w3 wp3 := below_appendp XP2.out HO.out hg (Nat.le_refl _)
                  have XP3 := Lib.hid hb
                  replace HO : Hid (OwnP wp3 w3.heap.size (.slice AP3 M cp3) (l3 ++ l4)) := ho
                  clear ho hg hb
                  refine hK.out _ _ (HKS.out _ XP3.out) (fun hHeld5 => ?_)
                  clear hK K hHeld3
                  try simp only [Act.put, List.setIfInBounds_toArray, List.set_cons_zero, List.set_cons_succ]
                  refine wpAnyH_ready (rs := [6, 10]) (by kernel_rfl) (by simp) ?_
                  refine AllReadyH.cons rfl (fun K hK => ?_) (AllReadyH.cons rfl (fun K hK => ?_) AllReadyH.nil)
                  · go_simp
                    go_at_call 17
                    refine (CP.out _ XP3.out AP3 M cp3 (roww_app H3.out H4.out XP3.out HO.out)).mono ?_
                    rintro e wc4 ⟨B9, l9, c9, rfl, ht9, hb⟩
                    obtain ⟨kw, hku, hkr⟩ := tree_back ht9
                    have XC4 := Lib.hid (XP3.out.trans (hb.mono XP3.out.size))
                    have HKU := Lib.hid hku
                    have HKW := Lib.hid hkr
                    clear ht9 hku hkr hb HO
                    refine hK.out _ _ (HKS.out _ XC4.out) (fun hHeld6 => ?_)
                    clear hK K hHeld5
                    try simp only [Act.put, List.setIfInBounds_toArray, List.set_cons_zero, List.set_cons_succ]
                    refine wpAnyH_take (i := 7) (oi := { dst := some 83, op := _, type := _, pos := _, after := _, guard := _ }) (v := .tuple #[.agg #[.slice B9 l9 c9], .int .i64 (0 : Int)]) rfl (by kernel_rfl) (by kernel_rfl) (by kernel_rfl) (fun _ _ _ h => h) (Or.inl ⟨by rfl, fun w' hSw => ?_⟩) (by assumption) ?_
                    · ((try dsimp only at hSw); go_simp)
                    try simp only [Act.put, List.setIfInBounds_toArray, List.set_cons_zero, List.set_cons_succ]
                    refine wpAnyH_take (i := 8) (oi := { dst := some 91, op := _, type := _, pos := _, after := _, guard := _ }) (v := .agg #[.slice B9 l9 c9]) rfl (by kernel_rfl) (by kernel_rfl) (by kernel_rfl) (fun _ _ _ h => h) (Or.inl ⟨by rfl, fun w' hSw => ?_⟩) (by assumption) ?_
                    · ((try dsimp only at hSw); go_simp)
                    try simp only [Act.put, List.setIfInBounds_toArray, List.set_cons_zero, List.set_cons_succ]
                    refine wpAnyH_take (i := 9) (oi := { dst := some 92, op := _, type := _, pos := _, after := _, guard := _ }) (v := .int .i64 (0 : Int)) rfl (by kernel_rfl) (by kernel_rfl) (by kernel_rfl) (fun _ _ _ h => h) (Or.inl ⟨by rfl, fun w' hSw => ?_⟩) (by assumption) ?_
                    · ((try dsimp only at hSw); go_simp)
                    try simp only [Act.put, List.setIfInBounds_toArray, List.set_cons_zero, List.set_cons_succ]
                    refine wpAnyH_ready (rs := [10]) (by kernel_rfl) (by simp) ?_
                    refine AllReadyH.cons rfl (fun K hK => ?_) AllReadyH.nil
                    have hb : Below wc4.heap.size wc4 (wc4.alloc (.cells #[.slice none 0 0] 43)) := (Below.refl _ _).alloc (Nat.le_refl _) _
                    have XA5 := Lib.hid (XC4.out.trans (hb.mono XC4.out.size))
                    replace HKU := Lib.hid (tree_c.on HKU.out hb)
                    have HG : Hid (TAt (wc4.alloc (.cells #[.slice none 0 0] 43)) wc4.heap.size none 0 0) := TAt.new_ wc4 none 0 0
                    have HLG : Hid (w3.heap.size ≤ wc4.heap.size) := XC4.out.size
                    clear hb
                    go_simp
                    refine hK.out _ _ (HKS.out _ XA5.out) (fun hHeld10 => ?_)
                    clear hK K hHeld6
                    try simp only [Act.put, List.setIfInBounds_toArray, List.set_cons_zero, List.set_cons_succ]
                    generalize hwn : (wc4.alloc (.cells #[.slice none 0 0] 43)) = wa5 at *
                    clear hwn
                    refine wpAnyH_ready (rs := [11]) (by kernel_rfl) (by simp) ?_
                    refine AllReadyH.cons rfl (fun K hK => ?_) AllReadyH.nil
                    have hg : wa5.grownBy (wa5.setCell ⟨wc4.heap.size, 0, none⟩ (.slice B9 l9 c9)) (some (wc4.heap.size)) := setCells_grown wa5 (wc4.heap.size) 0 [.slice B9 l9 c9]
                    have hbs : Below w3.heap.size w3 (wa5.setCell ⟨wc4.heap.size, 0, none⟩ (.slice B9 l9 c9)) := below_set XA5.out HLG.out XA5.out.size
                    have XT := Lib.hid hbs
                    have HT9 : Hid (TrC (wa5.setCell ⟨wc4.heap.size, 0, none⟩ (.slice B9 l9 c9)) B9 l9 c9 kw) := tree_c.set HKU.out HG.out hg
                    have HG9 : Hid (TAt (wa5.setCell ⟨wc4.heap.size, 0, none⟩ (.slice B9 l9 c9)) (wc4.heap.size) B9 l9 c9) := HG.out.set B9 l9 c9
                    have m0 := HG.out.c0
                    have mf0 := HG.out.fz 0
                    clear hg hbs HKU HG
                    go_simp
                    refine hK.out _ _ (HKS.out _ XT.out) (fun hHeld11 => ?_)
                    clear hK K hHeld10 m0 mf0
                    try simp only [Act.put, List.setIfInBounds_toArray, List.set_cons_zero, List.set_cons_succ]
                    generalize hwn : (wa5.setCell ⟨wc4.heap.size, 0, none⟩ (.slice B9 l9 c9)) = wt at *
                    clear hwn
                    refine wpAnyH_take (i := 12) (oi := { dst := some 15, op := _, type := _, pos := _, after := _, guard := _ }) (v := .int .i64 (0 : Int)) rfl (by kernel_rfl) (by kernel_rfl) (by kernel_rfl) (fun _ _ _ h => h) (Or.inl ⟨by rfl, fun w' hSw => ?_⟩) (by assumption) ?_
                    · ((try dsimp only at hSw); go_simp)
                    try simp only [Act.put, List.setIfInBounds_toArray, List.set_cons_zero, List.set_cons_succ]
                    refine wpAnyH_done (by kernel_rfl) ?_ _
                    refine NoPanic.normal ?_
                    go_wp2_with fail
                    go_meet
                    case rel => exact ⟨wc4.heap.size, B9, l9, c9, kw, rfl, rfl, ⟨HT9.out, HG9.out, HKW.out, XT.out⟩⟩
                  · have hb : Below wp3.heap.size wp3 (wp3.alloc (.cells #[.slice none 0 0] 43)) := (Below.refl _ _).alloc (Nat.le_refl _) _
                    have XA7 := Lib.hid (XP3.out.trans (hb.mono XP3.out.size))
                    replace HO := Lib.hid (HO.out.kept hb)
                    have HG : Hid (TAt (wp3.alloc (.cells #[.slice none 0 0] 43)) wp3.heap.size none 0 0) := TAt.new_ wp3 none 0 0
                    have HLG : Hid (w3.heap.size ≤ wp3.heap.size) := XP3.out.size
                    clear hb
                    go_simp
                    refine hK.out _ _ (HKS.out _ XA7.out) (fun hHeld10 => ?_)
                    clear hK K hHeld5
                    try simp only [Act.put, List.setIfInBounds_toArray, List.set_cons_zero, List.set_cons_succ]
                    generalize hwn : (wp3.alloc (.cells #[.slice none 0 0] 43)) = wa7 at *
                    clear hwn
                    refine wpAnyH_ready (rs := [6]) (by kernel_rfl) (by simp) ?_
                    refine AllReadyH.cons rfl (fun K hK => ?_) AllReadyH.nil
                    go_simp
                    go_at_call 17
                    refine (CP.out _ XA7.out AP3 M cp3 (roww_app H3.out H4.out XA7.out HO.out)).mono ?_
                    rintro e wc8 ⟨B9, l9, c9, rfl, ht9, hb⟩
                    obtain ⟨kw, hku, hkr⟩ := tree_back ht9
                    have XC8 := Lib.hid (XA7.out.trans (hb.mono XA7.out.size))
                    have HKU := Lib.hid hku
                    have HKW := Lib.hid hkr
                    replace HG := Lib.hid (HG.out.on hb)
                    clear ht9 hku hkr hb HO
                    refine hK.out _ _ (HKS.out _ XC8.out) (fun hHeld6 => ?_)
                    clear hK K hHeld10
                    try simp only [Act.put, List.setIfInBounds_toArray, List.set_cons_zero, List.set_cons_succ]
                    refine wpAnyH_take (i := 7) (oi := { dst := some 83, op := _, type := _, pos := _, after := _, guard := _ }) (v := .tuple #[.agg #[.slice B9 l9 c9], .int .i64 (0 : Int)]) rfl (by kernel_rfl) (by kernel_rfl) (by kernel_rfl) (fun _ _ _ h => h) (Or.inl ⟨by rfl, fun w' hSw => ?_⟩) (by assumption) ?_
                    · ((try dsimp only at hSw); go_simp)
                    try simp only [Act.put, List.setIfInBounds_toArray, List.set_cons_zero, List.set_cons_succ]
                    refine wpAnyH_take (i := 8) (oi := { dst := some 91, op := _, type := _, pos := _, after := _, guard := _ }) (v := .agg #[.slice B9 l9 c9]) rfl (by kernel_rfl) (by kernel_rfl) (by kernel_rfl) (fun _ _ _ h => h) (Or.inl ⟨by rfl, fun w' hSw => ?_⟩) (by assumption) ?_
                    · ((try dsimp only at hSw); go_simp)
                    try simp only [Act.put, List.setIfInBounds_toArray, List.set_cons_zero, List.set_cons_succ]
                    refine wpAnyH_take (i := 9) (oi := { dst := some 92, op := _, type := _, pos := _, after := _, guard := _ }) (v := .int .i64 (0 : Int)) rfl (by kernel_rfl) (by kernel_rfl) (by kernel_rfl) (fun _ _ _ h => h) (Or.inl ⟨by rfl, fun w' hSw => ?_⟩) (by assumption) ?_
                    · ((try dsimp only at hSw); go_simp)
                    try simp only [Act.put, List.setIfInBounds_toArray, List.set_cons_zero, List.set_cons_succ]
                    refine wpAnyH_ready (rs := [11]) (by kernel_rfl) (by simp) ?_
                    refine AllReadyH.cons rfl (fun K hK => ?_) AllReadyH.nil
                    have hg : wc8.grownBy (wc8.setCell ⟨wp3.heap.size, 0, none⟩ (.slice B9 l9 c9)) (some (wp3.heap.size)) := setCells_grown wc8 (wp3.heap.size) 0 [.slice B9 l9 c9]
                    have hbs : Below w3.heap.size w3 (wc8.setCell ⟨wp3.heap.size, 0, none⟩ (.slice B9 l9 c9)) := below_set XC8.out HLG.out XC8.out.size
                    have XT := Lib.hid hbs
                    have HT9 : Hid (TrC (wc8.setCell ⟨wp3.heap.size, 0, none⟩ (.slice B9 l9 c9)) B9 l9 c9 kw) := tree_c.set HKU.out HG.out hg
                    have HG9 : Hid (TAt (wc8.setCell ⟨wp3.heap.size, 0, none⟩ (.slice B9 l9 c9)) (wp3.heap.size) B9 l9 c9) := HG.out.set B9 l9 c9
                    have m0 := HG.out.c0
                    have mf0 := HG.out.fz 0
                    clear hg hbs HKU HG
                    go_simp
                    refine hK.out _ _ (HKS.out _ XT.out) (fun hHeld11 => ?_)
                    clear hK K hHeld6 m0 mf0
                    try simp only [Act.put, List.setIfInBounds_toArray, List.set_cons_zero, List.set_cons_succ]
                    generalize hwn : (wc8.setCell ⟨wp3.heap.size, 0, none⟩ (.slice B9 l9 c9)) = wt at *
                    clear hwn
                    refine wpAnyH_take (i := 12) (oi := { dst := some 15, op := _, type := _, pos := _, after := _, guard := _ }) (v := .int .i64 (0 : Int)) rfl (by kernel_rfl) (by kernel_rfl) (by kernel_rfl) (fun _ _ _ h => h) (Or.inl ⟨by rfl, fun w' hSw => ?_⟩) (by assumption) ?_
                    · ((try dsimp only at hSw); go_simp)
                    try simp only [Act.put, List.setIfInBounds_toArray, List.set_cons_zero, List.set_cons_succ]
                    refine wpAnyH_done (by kernel_rfl) ?_ _
                    refine NoPanic.normal ?_
                    go_wp2_with fail
                    go_meet
                    case rel => exact ⟨wp3.heap.size, B9, l9, c9, kw, rfl, rfl, ⟨HT9.out, HG9.out, HKW.out, XT.out⟩⟩
                · have hb : Below wp2.heap.size wp2 (wp2.alloc (.cells #[.slice none 0 0] 43)) := (Below.refl _ _).alloc (Nat.le_refl _) _
                  have XA10 := Lib.hid (XP2.out.trans (hb.mono XP2.out.size))
                  replace HO := Lib.hid (HO.out.kept hb)
                  have HG : Hid (TAt (wp2.alloc (.cells #[.slice none 0 0] 43)) wp2.heap.size none 0 0) := TAt.new_ wp2 none 0 0
                  have HLG : Hid (w3.heap.size ≤ wp2.heap.size) := XP2.out.size
                  clear hb
                  go_simp
                  refine hK.out _ _ (HKS.out _ XA10.out) (fun hHeld10 => ?_)
                  clear hK K hHeld3
                  try simp only [Act.put, List.setIfInBounds_toArray, List.set_cons_zero, List.set_cons_succ]
                  generalize hwn : (wp2.alloc (.cells #[.slice none 0 0] 43)) = wa10 at *
                  clear hwn
                  refine wpAnyH_ready (rs := [5]) (by kernel_rfl) (by simp) ?_
                  refine AllReadyH.cons rfl (fun K hK => ?_) AllReadyH.nil
                  refine step_append_prims 89 rfl rfl _ _ rfl w3.heap.size (.slice AP2 N cp2) l3 rfl HO.out l4 A4 n4 d4 rfl H4.out.len H4.out.room.1 (H4.out.on XA10.out).at_ XA10.out.size HLE2.out M HM.out ?_
                  intro AP11 cp11 wp11 ho hg
                  have hb : Below w3.heap.size w3 wp11 := below_appendp XA10.out HO.out hg (Nat.le_refl _)
                  have XP11 := Lib.hid hb
                  replace HG := Lib.hid (HG.out.grown hg (own_not_tree HO.out HG.out))
                  replace HO : Hid (OwnP wp11 w3.heap.size (.slice AP11 M cp11) (l3 ++ l4)) := ho
                  clear ho hg hb
                  refine hK.out _ _ (HKS.out _ XP11.out) (fun hHeld5 => ?_)
                  clear hK K hHeld10
                  try simp only [Act.put, List.setIfInBounds_toArray, List.set_cons_zero, List.set_cons_succ]
                  refine wpAnyH_ready (rs := [6]) (by kernel_rfl) (by simp) ?_
                  refine AllReadyH.cons rfl (fun K hK => ?_) AllReadyH.nil
                  go_simp
                  go_at_call 17
                  refine (CP.out _ XP11.out AP11 M cp11 (roww_app H3.out H4.out XP11.out HO.out)).mono ?_
                  rintro e wc12 ⟨B9, l9, c9, rfl, ht9, hb⟩
                  obtain ⟨kw, hku, hkr⟩ := tree_back ht9
                  have XC12 := Lib.hid (XP11.out.trans (hb.mono XP11.out.size))
                  have HKU := Lib.hid hku
                  have HKW := Lib.hid hkr
                  replace HG := Lib.hid (HG.out.on hb)
                  clear ht9 hku hkr hb HO
                  refine hK.out _ _ (HKS.out _ XC12.out) (fun hHeld6 => ?_)
                  clear hK K hHeld5
                  try simp only [Act.put, List.setIfInBounds_toArray, List.set_cons_zero, List.set_cons_succ]
                  refine wpAnyH_take (i := 7) (oi := { dst := some 83, op := _, type := _, pos := _, after := _, guard := _ }) (v := .tuple #[.agg #[.slice B9 l9 c9], .int .i64 (0 : Int)]) rfl (by kernel_rfl) (by kernel_rfl) (by kernel_rfl) (fun _ _ _ h => h) (Or.inl ⟨by rfl, fun w' hSw => ?_⟩) (by assumption) ?_
                  · ((try dsimp only at hSw); go_simp)
                  try simp only [Act.put, List.setIfInBounds_toArray, List.set_cons_zero, List.set_cons_succ]
                  refine wpAnyH_take (i := 8) (oi := { dst := some 91, op := _, type := _, pos := _, after := _, guard := _ }) (v := .agg #[.slice B9 l9 c9]) rfl (by kernel_rfl) (by kernel_rfl) (by kernel_rfl) (fun _ _ _ h => h) (Or.inl ⟨by rfl, fun w' hSw => ?_⟩) (by assumption) ?_
                  · ((try dsimp only at hSw); go_simp)
                  try simp only [Act.put, List.setIfInBounds_toArray, List.set_cons_zero, List.set_cons_succ]
                  refine wpAnyH_take (i := 9) (oi := { dst := some 92, op := _, type := _, pos := _, after := _, guard := _ }) (v := .int .i64 (0 : Int)) rfl (by kernel_rfl) (by kernel_rfl) (by kernel_rfl) (fun _ _ _ h => h) (Or.inl ⟨by rfl, fun w' hSw => ?_⟩) (by assumption) ?_
                  · ((try dsimp only at hSw); go_simp)
                  try simp only [Act.put, List.setIfInBounds_toArray, List.set_cons_zero, List.set_cons_succ]
                  refine wpAnyH_ready (rs := [11]) (by kernel_rfl) (by simp) ?_
                  refine AllReadyH.cons rfl (fun K hK => ?_) AllReadyH.nil
                  have hg : wc12.grownBy (wc12.setCell ⟨wp2.heap.size, 0, none⟩ (.slice B9 l9 c9)) (some (wp2.heap.size)) := setCells_grown wc12 (wp2.heap.size) 0 [.slice B9 l9 c9]
                  have hbs : Below w3.heap.size w3 (wc12.setCell ⟨wp2.heap.size, 0, none⟩ (.slice B9 l9 c9)) := below_set XC12.out HLG.out XC12.out.size
                  have XT := Lib.hid hbs
                  have HT9 : Hid (TrC (wc12.setCell ⟨wp2.heap.size, 0, none⟩ (.slice B9 l9 c9)) B9 l9 c9 kw) := tree_c.set HKU.out HG.out hg
                  have HG9 : Hid (TAt (wc12.setCell ⟨wp2.heap.size, 0, none⟩ (.slice B9 l9 c9)) (wp2.heap.size) B9 l9 c9) := HG.out.set B9 l9 c9
                  have m0 := HG.out.c0
                  have mf0 := HG.out.fz 0
                  clear hg hbs HKU HG
                  go_simp
                  refine hK.out _ _ (HKS.out _ XT.out) (fun hHeld11 => ?_)
                  clear hK K hHeld6 m0 mf0
                  try simp only [Act.put, List.setIfInBounds_toArray, List.set_cons_zero, List.set_cons_succ]
                  generalize hwn : (wc12.setCell ⟨wp2.heap.size, 0, none⟩ (.slice B9 l9 c9)) = wt at *
                  clear hwn
                  refine wpAnyH_take (i := 12) (oi := { dst := some 15, op := _, type := _, pos := _, after := _, guard := _ }) (v := .int .i64 (0 : Int)) rfl (by kernel_rfl) (by kernel_rfl) (by kernel_rfl) (fun _ _ _ h => h) (Or.inl ⟨by rfl, fun w' hSw => ?_⟩) (by assumption) ?_
                  · ((try dsimp only at hSw); go_simp)
                  try simp only [Act.put, List.setIfInBounds_toArray, List.set_cons_zero, List.set_cons_succ]
                  refine wpAnyH_done (by kernel_rfl) ?_ _
                  refine NoPanic.normal ?_
                  go_wp2_with fail
                  go_meet
                  case rel => exact ⟨wp2.heap.size, B9, l9, c9, kw, rfl, rfl, ⟨HT9.out, HG9.out, HKW.out, XT.out⟩⟩
              · have hb : Below we1.heap.size we1 (we1.alloc (.cells #[.slice none 0 0] 43)) := (Below.refl _ _).alloc (Nat.le_refl _) _
                have XA14 := Lib.hid (XE1.out.trans (hb.mono XE1.out.size))
                replace HO := Lib.hid (HO.out.kept hb)
                have HG : Hid (TAt (we1.alloc (.cells #[.slice none 0 0] 43)) we1.heap.size none 0 0) := TAt.new_ we1 none 0 0
                have HLG : Hid (w3.heap.size ≤ we1.heap.size) := XE1.out.size
                clear hb
                go_simp
                refine hK.out _ _ (HKS.out _ XA14.out) (fun hHeld10 => ?_)
                clear hK K hHeld1
                try simp only [Act.put, List.setIfInBounds_toArray, List.set_cons_zero, List.set_cons_succ]
                generalize hwn : (we1.alloc (.cells #[.slice none 0 0] 43)) = wa14 at *
                clear hwn
                refine wpAnyH_ready (rs := [3]) (by kernel_rfl) (by simp) ?_
                refine AllReadyH.cons rfl (fun K hK => ?_) AllReadyH.nil
                refine step_append_prims 87 rfl rfl _ _ rfl w3.heap.size (.slice (some ⟨wD.heap.size, 0, none⟩) 0 0) [] rfl HO.out l3 A3 n3 d3 rfl H3.out.len H3.out.room.1 (H3.out.on XA14.out).at_ XA14.out.size HLE1.out N HN.out ?_
                intro AP15 cp15 wp15 ho hg
                have hb : Below w3.heap.size w3 wp15 := below_appendp XA14.out HO.out hg (Nat.le_refl _)
                have XP15 := Lib.hid hb
                replace HG := Lib.hid (HG.out.grown hg (own_not_tree HO.out HG.out))
                replace HO : Hid (OwnP wp15 w3.heap.size (.slice AP15 N cp15) l3) := ho
                clear ho hg hb
                refine hK.out _ _ (HKS.out _ XP15.out) (fun hHeld3 => ?_)
                clear hK K hHeld10
                try simp only [Act.put, List.setIfInBounds_toArray, List.set_cons_zero, List.set_cons_succ]
                refine wpAnyH_ready (rs := [5]) (by kernel_rfl) (by simp) ?_
                refine AllReadyH.cons rfl (fun K hK => ?_) AllReadyH.nil
                refine step_append_prims 89 rfl rfl _ _ rfl w3.heap.size (.slice AP15 N cp15) l3 rfl HO.out l4 A4 n4 d4 rfl H4.out.len H4.out.room.1 (H4.out.on XP15.out).at_ XP15.out.size HLE2.out M HM.out ?_
                intro AP16 cp16 wp16 ho hg
                have hb : Below w3.heap.size w3 wp16 := below_appendp XP15.out HO.out hg (Nat.le_refl _)
                have XP16 := Lib.hid hb
                replace HG := Lib.hid (HG.out.grown hg (own_not_tree HO.out HG.out))
                replace HO : Hid (OwnP wp16 w3.heap.size (.slice AP16 M cp16) (l3 ++ l4)) := ho
                clear ho hg hb
                refine hK.out _ _ (HKS.out _ XP16.out) (fun hHeld5 => ?_)
                clear hK K hHeld3
                try simp only [Act.put, List.setIfInBounds_toArray, List.set_cons_zero, List.set_cons_succ]
                refine wpAnyH_ready (rs := [6]) (by kernel_rfl) (by simp) ?_
                refine AllReadyH.cons rfl (fun K hK => ?_) AllReadyH.nil
                go_simp
                go_at_call 17
                refine (CP.out _ XP16.out AP16 M cp16 (roww_app H3.out H4.out XP16.out HO.out)).mono ?_
                rintro e wc17 ⟨B9, l9, c9, rfl, ht9, hb⟩
                obtain ⟨kw, hku, hkr⟩ := tree_back ht9
                have XC17 := Lib.hid (XP16.out.trans (hb.mono XP16.out.size))
                have HKU := Lib.hid hku
                have HKW := Lib.hid hkr
                replace HG := Lib.hid (HG.out.on hb)
                clear ht9 hku hkr hb HO
                refine hK.out _ _ (HKS.out _ XC17.out) (fun hHeld6 => ?_)
                clear hK K hHeld5
                try simp only [Act.put, List.setIfInBounds_toArray, List.set_cons_zero, List.set_cons_succ]
                refine wpAnyH_take (i := 7) (oi := { dst := some 83, op := _, type := _, pos := _, after := _, guard := _ }) (v := .tuple #[.agg #[.slice B9 l9 c9], .int .i64 (0 : Int)]) rfl (by kernel_rfl) (by kernel_rfl) (by kernel_rfl) (fun _ _ _ h => h) (Or.inl ⟨by rfl, fun w' hSw => ?_⟩) (by assumption) ?_
                · ((try dsimp only at hSw); go_simp)
                try simp only [Act.put, List.setIfInBounds_toArray, List.set_cons_zero, List.set_cons_succ]
                refine wpAnyH_take (i := 8) (oi := { dst := some 91, op := _, type := _, pos := _, after := _, guard := _ }) (v := .agg #[.slice B9 l9 c9]) rfl (by kernel_rfl) (by kernel_rfl) (by kernel_rfl) (fun _ _ _ h => h) (Or.inl ⟨by rfl, fun w' hSw => ?_⟩) (by assumption) ?_
                · ((try dsimp only at hSw); go_simp)
                try simp only [Act.put, List.setIfInBounds_toArray, List.set_cons_zero, List.set_cons_succ]
                refine wpAnyH_take (i := 9) (oi := { dst := some 92, op := _, type := _, pos := _, after := _, guard := _ }) (v := .int .i64 (0 : Int)) rfl (by kernel_rfl) (by kernel_rfl) (by kernel_rfl) (fun _ _ _ h => h) (Or.inl ⟨by rfl, fun w' hSw => ?_⟩) (by assumption) ?_
                · ((try dsimp only at hSw); go_simp)
                try simp only [Act.put, List.setIfInBounds_toArray, List.set_cons_zero, List.set_cons_succ]
                refine wpAnyH_ready (rs := [11]) (by kernel_rfl) (by simp) ?_
                refine AllReadyH.cons rfl (fun K hK => ?_) AllReadyH.nil
                have hg : wc17.grownBy (wc17.setCell ⟨we1.heap.size, 0, none⟩ (.slice B9 l9 c9)) (some (we1.heap.size)) := setCells_grown wc17 (we1.heap.size) 0 [.slice B9 l9 c9]
                have hbs : Below w3.heap.size w3 (wc17.setCell ⟨we1.heap.size, 0, none⟩ (.slice B9 l9 c9)) := below_set XC17.out HLG.out XC17.out.size
                have XT := Lib.hid hbs
                have HT9 : Hid (TrC (wc17.setCell ⟨we1.heap.size, 0, none⟩ (.slice B9 l9 c9)) B9 l9 c9 kw) := tree_c.set HKU.out HG.out hg
                have HG9 : Hid (TAt (wc17.setCell ⟨we1.heap.size, 0, none⟩ (.slice B9 l9 c9)) (we1.heap.size) B9 l9 c9) := HG.out.set B9 l9 c9
                have m0 := HG.out.c0
                have mf0 := HG.out.fz 0
                clear hg hbs HKU HG
                go_simp
                refine hK.out _ _ (HKS.out _ XT.out) (fun hHeld11 => ?_)
                clear hK K hHeld6 m0 mf0
                try simp only [Act.put, List.setIfInBounds_toArray, List.set_cons_zero, List.set_cons_succ]
                generalize hwn : (wc17.setCell ⟨we1.heap.size, 0, none⟩ (.slice B9 l9 c9)) = wt at *
                clear hwn
                refine wpAnyH_take (i := 12) (oi := { dst := some 15, op := _, type := _, pos := _, after := _, guard := _ }) (v := .int .i64 (0 : Int)) rfl (by kernel_rfl) (by kernel_rfl) (by kernel_rfl) (fun _ _ _ h => h) (Or.inl ⟨by rfl, fun w' hSw => ?_⟩) (by assumption) ?_
                · ((try dsimp only at hSw); go_simp)
                try simp only [Act.put, List.setIfInBounds_toArray, List.set_cons_zero, List.set_cons_succ]
                refine wpAnyH_done (by kernel_rfl) ?_ _
                refine NoPanic.normal ?_
                go_wp2_with fail
                go_meet
                case rel => exact ⟨we1.heap.size, B9, l9, c9, kw, rfl, rfl, ⟨HT9.out, HG9.out, HKW.out, XT.out⟩⟩
            · have hb : Below wD.heap.size wD (wD.alloc (.cells #[.slice none 0 0] 43)) := (Below.refl _ _).alloc (Nat.le_refl _) _
              have XA19 := Lib.hid (XB0.out.trans (hb.mono XB0.out.size))
              have HG : Hid (TAt (wD.alloc (.cells #[.slice none 0 0] 43)) wD.heap.size none 0 0) := TAt.new_ wD none 0 0
              have HLG : Hid (w3.heap.size ≤ wD.heap.size) := XB0.out.size
              clear hb
              go_simp
              refine hK.out _ _ (HKS.out _ XA19.out) (fun hHeld10 => ?_)
              clear hK K hHeld
              try simp only [Act.put, List.setIfInBounds_toArray, List.set_cons_zero, List.set_cons_succ]
              generalize hwn : (wD.alloc (.cells #[.slice none 0 0] 43)) = wa19 at *
              clear hwn
              refine wpAnyH_ready (rs := [1]) (by kernel_rfl) (by simp) ?_
              refine AllReadyH.cons rfl (fun K hK => ?_) AllReadyH.nil
              have hb : Below wa19.heap.size wa19 (wa19.alloc (.cells #[] 33)) := (Below.refl _ _).alloc (Nat.le_refl _) _
              have XE20 := Lib.hid (XA19.out.trans (hb.mono XA19.out.size))
              have HO := Lib.hid (own_madep wa19 w3.heap.size XA19.out.size)
              replace HG := Lib.hid (HG.out.on hb)
              clear hb
              go_simp
              refine hK.out _ _ (HKS.out _ XE20.out) (fun hHeld1 => ?_)
              clear hK K hHeld10
              try simp only [Act.put, List.setIfInBounds_toArray, List.set_cons_zero, List.set_cons_succ]
              generalize hwn : (wa19.alloc (.cells #[] 33)) = we20 at *
              clear hwn
              refine wpAnyH_ready (rs := [3]) (by kernel_rfl) (by simp) ?_
              refine AllReadyH.cons rfl (fun K hK => ?_) AllReadyH.nil
              refine step_append_prims 87 rfl rfl _ _ rfl w3.heap.size (.slice (some ⟨wa19.heap.size, 0, none⟩) 0 0) [] rfl HO.out l3 A3 n3 d3 rfl H3.out.len H3.out.room.1 (H3.out.on XE20.out).at_ XE20.out.size HLE1.out N HN.out ?_
              intro AP21 cp21 wp21 ho hg
              have hb : Below w3.heap.size w3 wp21 := below_appendp XE20.out HO.out hg (Nat.le_refl _)
              have XP21 := Lib.hid hb
              replace HG := Lib.hid (HG.out.grown hg (own_not_tree HO.out HG.out))
              replace HO : Hid (OwnP wp21 w3.heap.size (.slice AP21 N cp21) l3) := ho
              clear ho hg hb
              refine hK.out _ _ (HKS.out _ XP21.out) (fun hHeld3 => ?_)
              clear hK K hHeld1
              try simp only [Act.put, List.setIfInBounds_toArray, List.set_cons_zero, List.set_cons_succ]
              refine wpAnyH_ready (rs := [5]) (by kernel_rfl) (by simp) ?_
              refine AllReadyH.cons rfl (fun K hK => ?_) AllReadyH.nil
              refine step_append_prims 89 rfl rfl _ _ rfl w3.heap.size (.slice AP21 N cp21) l3 rfl HO.out l4 A4 n4 d4 rfl H4.out.len H4.out.room.1 (H4.out.on XP21.out).at_ XP21.out.size HLE2.out M HM.out ?_
              intro AP22 cp22 wp22 ho hg
              have hb : Below w3.heap.size w3 wp22 := below_appendp XP21.out HO.out hg (Nat.le_refl _)
              have XP22 := Lib.hid hb
              replace HG := Lib.hid (HG.out.grown hg (own_not_tree HO.out HG.out))
              replace HO : Hid (OwnP wp22 w3.heap.size (.slice AP22 M cp22) (l3 ++ l4)) := ho
              clear ho hg hb
              refine hK.out _ _ (HKS.out _ XP22.out) (fun hHeld5 => ?_)
              clear hK K hHeld3
              try simp only [Act.put, List.setIfInBounds_toArray, List.set_cons_zero, List.set_cons_succ]
              refine wpAnyH_ready (rs := [6]) (by kernel_rfl) (by simp) ?_
              refine AllReadyH.cons rfl (fun K hK => ?_) AllReadyH.nil
              go_simp
              go_at_call 17
              refine (CP.out _ XP22.out AP22 M cp22 (roww_app H3.out H4.out XP22.out HO.out)).mono ?_
              rintro e wc23 ⟨B9, l9, c9, rfl, ht9, hb⟩
              obtain ⟨kw, hku, hkr⟩ := tree_back ht9
              have XC23 := Lib.hid (XP22.out.trans (hb.mono XP22.out.size))
              have HKU := Lib.hid hku
              have HKW := Lib.hid hkr
              replace HG := Lib.hid (HG.out.on hb)
              clear ht9 hku hkr hb HO
              refine hK.out _ _ (HKS.out _ XC23.out) (fun hHeld6 => ?_)
              clear hK K hHeld5
              try simp only [Act.put, List.setIfInBounds_toArray, List.set_cons_zero, List.set_cons_succ]
              refine wpAnyH_take (i := 7) (oi := { dst := some 83, op := _, type := _, pos := _, after := _, guard := _ }) (v := .tuple #[.agg #[.slice B9 l9 c9], .int .i64 (0 : Int)]) rfl (by kernel_rfl) (by kernel_rfl) (by kernel_rfl) (fun _ _ _ h => h) (Or.inl ⟨by rfl, fun w' hSw => ?_⟩) (by assumption) ?_
              · ((try dsimp only at hSw); go_simp)
              try simp only [Act.put, List.setIfInBounds_toArray, List.set_cons_zero, List.set_cons_succ]
              refine wpAnyH_take (i := 8) (oi := { dst := some 91, op := _, type := _, pos := _, after := _, guard := _ }) (v := .agg #[.slice B9 l9 c9]) rfl (by kernel_rfl) (by kernel_rfl) (by kernel_rfl) (fun _ _ _ h => h) (Or.inl ⟨by rfl, fun w' hSw => ?_⟩) (by assumption) ?_
              · ((try dsimp only at hSw); go_simp)
              try simp only [Act.put, List.setIfInBounds_toArray, List.set_cons_zero, List.set_cons_succ]
              refine wpAnyH_take (i := 9) (oi := { dst := some 92, op := _, type := _, pos := _, after := _, guard := _ }) (v := .int .i64 (0 : Int)) rfl (by kernel_rfl) (by kernel_rfl) (by kernel_rfl) (fun _ _ _ h => h) (Or.inl ⟨by rfl, fun w' hSw => ?_⟩) (by assumption) ?_
              · ((try dsimp only at hSw); go_simp)
              try simp only [Act.put, List.setIfInBounds_toArray, List.set_cons_zero, List.set_cons_succ]
              refine wpAnyH_ready (rs := [11]) (by kernel_rfl) (by simp) ?_
              refine AllReadyH.cons rfl (fun K hK => ?_) AllReadyH.nil
              have hg : wc23.grownBy (wc23.setCell ⟨wD.heap.size, 0, none⟩ (.slice B9 l9 c9)) (some (wD.heap.size)) := setCells_grown wc23 (wD.heap.size) 0 [.slice B9 l9 c9]
              have hbs : Below w3.heap.size w3 (wc23.setCell ⟨wD.heap.size, 0, none⟩ (.slice B9 l9 c9)) := below_set XC23.out HLG.out XC23.out.size
              have XT := Lib.hid hbs
              have HT9 : Hid (TrC (wc23.setCell ⟨wD.heap.size, 0, none⟩ (.slice B9 l9 c9)) B9 l9 c9 kw) := tree_c.set HKU.out HG.out hg
              have HG9 : Hid (TAt (wc23.setCell ⟨wD.heap.size, 0, none⟩ (.slice B9 l9 c9)) (wD.heap.size) B9 l9 c9) := HG.out.set B9 l9 c9
              have m0 := HG.out.c0
              have mf0 := HG.out.fz 0
              clear hg hbs HKU HG
              go_simp
              refine hK.out _ _ (HKS.out _ XT.out) (fun hHeld11 => ?_)
              clear hK K hHeld6 m0 mf0
              try simp only [Act.put, List.setIfInBounds_toArray, List.set_cons_zero, List.set_cons_succ]
              generalize hwn : (wc23.setCell ⟨wD.heap.size, 0, none⟩ (.slice B9 l9 c9)) = wt at *
              clear hwn
              refine wpAnyH_take (i := 12) (oi := { dst := some 15, op := _, type := _, pos := _, after := _, guard := _ }) (v := .int .i64 (0 : Int)) rfl (by kernel_rfl) (by kernel_rfl) (by kernel_rfl) (fun _ _ _ h => h) (Or.inl ⟨by rfl, fun w' hSw => ?_⟩) (by assumption) ?_
              · ((try dsimp only at hSw); go_simp)
              try simp only [Act.put, List.setIfInBounds_toArray, List.set_cons_zero, List.set_cons_succ]
              refine wpAnyH_done (by kernel_rfl) ?_ _
              refine NoPanic.normal ?_
              go_wp2_with fail
              go_meet
              case rel => exact ⟨wD.heap.size, B9, l9, c9, kw, rfl, rfl, ⟨HT9.out, HG9.out, HKW.out, XT.out⟩⟩
          case rest =>
            obtain ⟨g5, B5, l5, c5, kx, rfl, rfl, HQ⟩ := hcut
            have hbq := HQ.out.2.2.2
            have hg5 : HeldT wc g5 B5 l5 c5 kx := ⟨HQ.out.1, HQ.out.2.1⟩
            have KR := Lib.hid HQ.out.2.2.1
            clear HKS CP HDR HN HM HLE1 HLE2
            replace H1 := Lib.hid (H1.out.on hbq)
            replace H2 := Lib.hid (H2.out.on hbq)
            replace Ht1 := Lib.hid (Ht1.out.on hbq)
            replace Hg2 := Lib.hid (Hg2.out.on hbq)
            replace H3 := Lib.hid (H3.out.on hbq)
            replace H4 := Lib.hid (H4.out.on hbq)
            replace HA := Lib.hid (HA.out.trans (hbq.mono HA.out.size))
            replace HT := Lib.hid (Tabs.on HT.out hbq)
            have Hg5 := Lib.hid hg5
            clear HQ hbq hg5
            generalize wc = wg5 at *
            have hkx := KR.out rfl
            subst hkx
            clear KR H3 H4 HLB3 HAB3 HAP3
            have t2 := Hg2.out.2.c0
            have t5 := Hg5.out.2.c0
            have cs := tree_c.same B2 l2 c4 kx B5 l5 c5 kx wg5 Hg2.out.1 Hg5.out.1 HKL.out HKL.out
            rw [show decide (kx = kx) = true from decide_eq_true rfl] at cs
            have CS := Lib.hid cs
            clear cs
            go_wp2_with fail
            refine CS.out.mono ?_
            rintro e w4 ⟨rfl, hb⟩
            replace H1 := Lib.hid (H1.out.on hb)
            replace H2 := Lib.hid (H2.out.on hb)
            replace Ht1 := Lib.hid (Ht1.out.on hb)
            replace Hg2 := Lib.hid (Hg2.out.on hb)
            replace HA := Lib.hid (HA.out.trans (hb.mono HA.out.size))
            replace HT := Lib.hid (Tabs.on HT.out hb)
            clear hb t2 t5 CS Hg5
            go_wp2_with fail
            refine (seqfront_any A1 la _ c1 i _ H1.out L1.out (by have := HL.out; omega) HT.out).mono ?_
            rintro e w5 ⟨A7, n7, d7, l7, er7, rfl, hr, hb⟩
            replace H1 := Lib.hid (H1.out.on hb)
            replace H2 := Lib.hid (H2.out.on hb)
            replace Ht1 := Lib.hid (Ht1.out.on hb)
            replace Hg2 := Lib.hid (Hg2.out.on hb)
            replace HA := Lib.hid (HA.out.trans (hb.mono HA.out.size))
            replace HT := Lib.hid (Tabs.on HT.out hb)
            have H7 := Lib.hid hr.out.1
            have E7 := Lib.hid hr.out.2
            clear hr hb
            by_cases h7 : er7 = 0
            · subst h7
              have hsplit := apAll_split (by rw [← keys_app]; exact HAP.out)
              obtain ⟨js, hs1, hs2⟩ := hsplit
              have hfr : frontP (pkeys la) i.toNat = (0, pkeys l7) := by
                have h9 := E7.out
                unfold frontI at h9
                split at h9
                · exact h9
                · cases h9
              have hap7 : apAll kt (pkeys (l7 ++ lb)) = (0, kx) := by
                rw [keys_app]
                refine apAll_join (front_same KW.out (fun k hk => ?_) ?_ hs1 hfr) hs2
                · have h9 := KZ.out k hk
                  have h8 := HC.out
                  omega
                · have h8 := HC.out
                  omega
              have hlt := front_lt (ltk_row L1.out) E7.out
              have HLB7 : Hid (∀ z ∈ l7 ++ lb, LtK z.key) := fun z hz => (List.mem_append.1 hz).elim (ltk_keys rfl hlt.1 z) (L2.out z)
              have HAB7 : Hid ((l7 ++ lb).length ≤ 30) := by
                show _ ≤ _
                have h8 := hlt.2
                rw [pkeys_len, pkeys_len] at h8
                rw [List.length_append]
                have h9 := HL.out
                omega
              have HAP7 := Lib.hid hap7
              clear hs1 hs2 hfr hap7 hlt E7
              go_upto_region 16 with (fail)
              have HKS : Hid (∀ W, Below w5.heap.size w5 W → W.cell? ⟨g1, 0, none⟩ = some (.slice B1 l1 c3)) := fun W hW => (Ht1.out.2.on hW).c0
              have CP := Lib.hid (all_c Ht1.out.1 KW.out KL.out (l7 ++ lb) HLB7.out HAB7.out HT.out HAP7.out)
              have HDR : Hid (Below w5.heap.size w5 w5.drew) := (Below.refl _ _).drew
              obtain ⟨N, hN⟩ : ∃ N, N = ([] : List Pm).length + l7.length := ⟨_, rfl⟩
              obtain ⟨M, hM⟩ : ∃ M, M = l7.length + lb.length := ⟨_, rfl⟩
              have HN := Lib.hid hN
              have HM := Lib.hid hM
              have HLE1 : Hid (([] : List Pm).length + l7.length ≤ 100000) := by show _ ≤ _; have h9 := HAB7.out; simp only [List.length_append] at h9; simp only [List.length_nil]; omega
              have HLE2 : Hid (l7.length + lb.length ≤ 100000) := by show _ ≤ _; have h9 := HAB7.out; simp only [List.length_append] at h9; omega
              clear hN hM
              go_upto_region 16 with (fail)
              go_cut [18, 19] from 20 (fun pt pe wx => ∃ (g9 : Nat) (B9 : Option Addr) (l9 c9 : Nat) (kw : List PF), pt = .pointer (some ⟨g9, 0, none⟩) ∧ pe = .int .i64 (0 : Int) ∧ Hid (TrC wx B9 l9 c9 kw ∧ TAt wx g9 B9 l9 c9 ∧ ((0 : Int) = (0 : Int) → kw = kx) ∧ Below w5.heap.size w5 wx))
              case first =>
                clear HKL
                refine wp_region_noPanic ?_
                refine wp_region_held_drew (S := (fun w' => w'.cell? ⟨g1, 0, none⟩ = some (.slice B1 l1 c3))) (by kernel_rfl) (HKS.out _ HDR.out) (fun hHeld => ?_)
                refine wpAnyH_take (i := 0) (oi := { dst := some 111, op := _, type := _, pos := _, after := _, guard := _ }) (v := .agg #[.slice B1 l1 c3]) rfl (by kernel_rfl) (by kernel_rfl) (by kernel_rfl) (fun _ _ _ h => h) (Or.inl ⟨by rfl, fun w' hSw => ?_⟩) (by assumption) ?_
                · ((try dsimp only at hSw); go_simp)
                try simp only [Act.put, List.setIfInBounds_toArray, List.set_cons_zero, List.set_cons_succ]
                refine wpAnyH_take (i := 2) (oi := { dst := some 113, op := _, type := _, pos := _, after := _, guard := _ }) (v := .slice A7 n7 d7) rfl (by kernel_rfl) (by kernel_rfl) (by kernel_rfl) (fun _ _ _ h => h) (Or.inl ⟨by rfl, fun w' hSw => ?_⟩) (by assumption) ?_
                · ((try dsimp only at hSw); go_simp)
                try simp only [Act.put, List.setIfInBounds_toArray, List.set_cons_zero, List.set_cons_succ]
                refine wpAnyH_take (i := 4) (oi := { dst := some 115, op := _, type := _, pos := _, after := _, guard := _ }) (v := .slice A2 lb.length c2) rfl (by kernel_rfl) (by kernel_rfl) (by kernel_rfl) (fun _ _ _ h => h) (Or.inl ⟨by rfl, fun w' hSw => ?_⟩) (by assumption) ?_
                · ((try dsimp only at hSw); go_simp)
                try simp only [Act.put, List.setIfInBounds_toArray, List.set_cons_zero, List.set_cons_succ]
                have XB0 := Lib.hid HDR.out
                generalize hwD : w5.drew = wD at *
                clear hwD HDR
                refine wpAnyH_ready (rs := [1, 10]) (by kernel_rfl) (by simp) ?_
                refine AllReadyH.cons rfl (fun K hK => ?_) (AllReadyH.cons rfl (fun K hK => ?_) AllReadyH.nil)
                · have hb : Below wD.heap.size wD (wD.alloc (.cells #[] 33)) := (Below.refl _ _).alloc (Nat.le_refl _) _
                  have XE1 := Lib.hid (XB0.out.trans (hb.mono XB0.out.size))
                  have HO := Lib.hid (own_madep wD w5.heap.size XB0.out.size)
                  clear hb
                  go_simp
                  refine hK.out _ _ (HKS.out _ XE1.out) (fun hHeld1 => ?_)
                  clear hK K hHeld
                  try simp only [Act.put, List.setIfInBounds_toArray, List.set_cons_zero, List.set_cons_succ]
                  generalize hwn : (wD.alloc (.cells #[] 33)) = we1 at *
                  clear hwn
                  refine wpAnyH_ready (rs := [3, 10]) (by kernel_rfl) (by simp) ?_
                  refine AllReadyH.cons rfl (fun K hK => ?_) (AllReadyH.cons rfl (fun K hK => ?_) AllReadyH.nil)
                  · refine step_append_prims 114 rfl rfl _ _ rfl w5.heap.size (.slice (some ⟨wD.heap.size, 0, none⟩) 0 0) [] rfl HO.out l7 A7 n7 d7 rfl H7.out.len H7.out.room.1 (H7.out.on XE1.out).at_ XE1.out.size HLE1.out N HN.out ?_
                    intro AP2 cp2 wp2 ho hg
                    have hb : Below w5.heap.size w5 wp2 := below_appendp XE1.out HO.out hg (Nat.le_refl _)
                    have XP2 := Lib.hid hb
                    replace HO : Hid (OwnP wp2 w5.heap.size (.slice AP2 N cp2) l7) := ho
                    clear ho hg hb
                    refine hK.out _ _ (HKS.out _ XP2.out) (fun hHeld3 => ?_)
                    clear hK K hHeld1
                    try simp only [Act.put, List.setIfInBounds_toArray, List.set_cons_zero, List.set_cons_succ]
                    refine wpAnyH_ready (rs := [5, 10]) (by kernel_rfl) (by simp) ?_
                    refine AllReadyH.cons rfl (fun K hK => ?_) (AllReadyH.cons rfl (fun K hK => ?_) AllReadyH.nil)
                    · refine step_append_prims 116 rfl rfl _ _ rfl w5.heap.size (.slice AP2 N cp2) l7 rfl HO.out lb A2 lb.length c2 rfl H2.out.len H2.out.room.1 (H2.out.on XP2.out).at_ XP2.out.size HLE2.out M HM.out ?_
                      intro AP3 cp3 wp3 ho hg
                      have hb : Below w5.heap.size w5 wp3 := below_appendp XP2.out HO.out hg (Nat.le_refl _)
                      have XP3 := Lib.hid hb
                      replace HO : Hid (OwnP wp3 w5.heap.size (.slice AP3 M cp3) (l7 ++ lb)) := ho
                      clear ho hg hb
                      refine hK.out _ _ (HKS.out _ XP3.out) (fun hHeld5 => ?_)
                      clear hK K hHeld3
                      try simp only [Act.put, List.setIfInBounds_toArray, List.set_cons_zero, List.set_cons_succ]
                      refine wpAnyH_ready (rs := [6, 10]) (by kernel_rfl) (by simp) ?_
                      refine AllReadyH.cons rfl (fun K hK => ?_) (AllReadyH.cons rfl (fun K hK => ?_) AllReadyH.nil)
                      · go_simp
                        go_at_call 17
                        refine (CP.out _ XP3.out AP3 M cp3 (roww_app H7.out H2.out XP3.out HO.out)).mono ?_
                        rintro e wc4 ⟨B9, l9, c9, rfl, ht9, hb⟩
                        obtain ⟨kw, hkx, hkr⟩ := tree_back ht9
                        have XC4 := Lib.hid (XP3.out.trans (hb.mono XP3.out.size))
                        have HKU := Lib.hid hkx
                        have HKW := Lib.hid hkr
                        clear ht9 hkx hkr hb HO
                        refine hK.out _ _ (HKS.out _ XC4.out) (fun hHeld6 => ?_)
                        clear hK K hHeld5
                        try simp only [Act.put, List.setIfInBounds_toArray, List.set_cons_zero, List.set_cons_succ]
                        refine wpAnyH_take (i := 7) (oi := { dst := some 110, op := _, type := _, pos := _, after := _, guard := _ }) (v := .tuple #[.agg #[.slice B9 l9 c9], .int .i64 (0 : Int)]) rfl (by kernel_rfl) (by kernel_rfl) (by kernel_rfl) (fun _ _ _ h => h) (Or.inl ⟨by rfl, fun w' hSw => ?_⟩) (by assumption) ?_
                        · ((try dsimp only at hSw); go_simp)
                        try simp only [Act.put, List.setIfInBounds_toArray, List.set_cons_zero, List.set_cons_succ]
                        refine wpAnyH_take (i := 8) (oi := { dst := some 118, op := _, type := _, pos := _, after := _, guard := _ }) (v := .agg #[.slice B9 l9 c9]) rfl (by kernel_rfl) (by kernel_rfl) (by kernel_rfl) (fun _ _ _ h => h) (Or.inl ⟨by rfl, fun w' hSw => ?_⟩) (by assumption) ?_
                        · ((try dsimp only at hSw); go_simp)
                        try simp only [Act.put, List.setIfInBounds_toArray, List.set_cons_zero, List.set_cons_succ]
                        refine wpAnyH_take (i := 9) (oi := { dst := some 119, op := _, type := _, pos := _, after := _, guard := _ }) (v := .int .i64 (0 : Int)) rfl (by kernel_rfl) (by kernel_rfl) (by kernel_rfl) (fun _ _ _ h => h) (Or.inl ⟨by rfl, fun w' hSw => ?_⟩) (by assumption) ?_
                        · ((try dsimp only at hSw); go_simp)
                        try simp only [Act.put, List.setIfInBounds_toArray, List.set_cons_zero, List.set_cons_succ]
                        refine wpAnyH_ready (rs := [10]) (by kernel_rfl) (by simp) ?_
                        refine AllReadyH.cons rfl (fun K hK => ?_) AllReadyH.nil
                        have hb : Below wc4.heap.size wc4 (wc4.alloc (.cells #[.slice none 0 0] 43)) := (Below.refl _ _).alloc (Nat.le_refl _) _
                        have XA5 := Lib.hid (XC4.out.trans (hb.mono XC4.out.size))
                        replace HKU := Lib.hid (tree_c.on HKU.out hb)
                        have HG : Hid (TAt (wc4.alloc (.cells #[.slice none 0 0] 43)) wc4.heap.size none 0 0) := TAt.new_ wc4 none 0 0
                        have HLG : Hid (w5.heap.size ≤ wc4.heap.size) := XC4.out.size
                        clear hb
                        go_simp
                        refine hK.out _ _ (HKS.out _ XA5.out) (fun hHeld10 => ?_)
                        clear hK K hHeld6
                        try simp only [Act.put, List.setIfInBounds_toArray, List.set_cons_zero, List.set_cons_succ]
                        generalize hwn : (wc4.alloc (.cells #[.slice none 0 0] 43)) = wa5 at *
                        clear hwn
                        refine wpAnyH_ready (rs := [11]) (by kernel_rfl) (by simp) ?_
                        refine AllReadyH.cons rfl (fun K hK => ?_) AllReadyH.nil
                        have hg : wa5.grownBy (wa5.setCell ⟨wc4.heap.size, 0, none⟩ (.slice B9 l9 c9)) (some (wc4.heap.size)) := setCells_grown wa5 (wc4.heap.size) 0 [.slice B9 l9 c9]
                        have hbs : Below w5.heap.size w5 (wa5.setCell ⟨wc4.heap.size, 0, none⟩ (.slice B9 l9 c9)) := below_set XA5.out HLG.out XA5.out.size
                        have XT := Lib.hid hbs
                        have HT9 : Hid (TrC (wa5.setCell ⟨wc4.heap.size, 0, none⟩ (.slice B9 l9 c9)) B9 l9 c9 kw) := tree_c.set HKU.out HG.out hg
                        have HG9 : Hid (TAt (wa5.setCell ⟨wc4.heap.size, 0, none⟩ (.slice B9 l9 c9)) (wc4.heap.size) B9 l9 c9) := HG.out.set B9 l9 c9
                        have m0 := HG.out.c0
                        have mf0 := HG.out.fz 0
                        clear hg hbs HKU HG
                        go_simp
                        refine hK.out _ _ (HKS.out _ XT.out) (fun hHeld11 => ?_)
                        clear hK K hHeld10 m0 mf0
                        try simp only [Act.put, List.setIfInBounds_toArray, List.set_cons_zero, List.set_cons_succ]
                        generalize hwn : (wa5.setCell ⟨wc4.heap.size, 0, none⟩ (.slice B9 l9 c9)) = wt at *
                        clear hwn
                        refine wpAnyH_take (i := 12) (oi := { dst := some 19, op := _, type := _, pos := _, after := _, guard := _ }) (v := .int .i64 (0 : Int)) rfl (by kernel_rfl) (by kernel_rfl) (by kernel_rfl) (fun _ _ _ h => h) (Or.inl ⟨by rfl, fun w' hSw => ?_⟩) (by assumption) ?_
                        · ((try dsimp only at hSw); go_simp)
                        try simp only [Act.put, List.setIfInBounds_toArray, List.set_cons_zero, List.set_cons_succ]
                        refine wpAnyH_done (by kernel_rfl) ?_ _
                        refine NoPanic.normal ?_
                        go_wp2_with fail
                        go_meet
                        case rel => exact ⟨wc4.heap.size, B9, l9, c9, kw, rfl, rfl, ⟨HT9.out, HG9.out, HKW.out, XT.out⟩⟩
                      · have hb : Below wp3.heap.size wp3 (wp3.alloc (.cells #[.slice none 0 0] 43)) := (Below.refl _ _).alloc (Nat.le_refl _) _
                        have XA7 := Lib.hid (XP3.out.trans (hb.mono XP3.out.size))
                        replace HO := Lib.hid (HO.out.kept hb)
                        have HG : Hid (TAt (wp3.alloc (.cells #[.slice none 0 0] 43)) wp3.heap.size none 0 0) := TAt.new_ wp3 none 0 0
                        have HLG : Hid (w5.heap.size ≤ wp3.heap.size) := XP3.out.size
                        clear hb
                        go_simp
                        refine hK.out _ _ (HKS.out _ XA7.out) (fun hHeld10 => ?_)
                        clear hK K hHeld5
                        try simp only [Act.put, List.setIfInBounds_toArray, List.set_cons_zero, List.set_cons_succ]
                        generalize hwn : (wp3.alloc (.cells #[.slice none 0 0] 43)) = wa7 at *
                        clear hwn
                        refine wpAnyH_ready (rs := [6]) (by kernel_rfl) (by simp) ?_
                        refine AllReadyH.cons rfl (fun K hK => ?_) AllReadyH.nil
                        go_simp
                        go_at_call 17
                        refine (CP.out _ XA7.out AP3 M cp3 (roww_app H7.out H2.out XA7.out HO.out)).mono ?_
                        rintro e wc8 ⟨B9, l9, c9, rfl, ht9, hb⟩
                        obtain ⟨kw, hkx, hkr⟩ := tree_back ht9
                        have XC8 := Lib.hid (XA7.out.trans (hb.mono XA7.out.size))
                        have HKU := Lib.hid hkx
                        have HKW := Lib.hid hkr
                        replace HG := Lib.hid (HG.out.on hb)
                        clear ht9 hkx hkr hb HO
                        refine hK.out _ _ (HKS.out _ XC8.out) (fun hHeld6 => ?_)
                        clear hK K hHeld10
                        try simp only [Act.put, List.setIfInBounds_toArray, List.set_cons_zero, List.set_cons_succ]
                        refine wpAnyH_take (i := 7) (oi := { dst := some 110, op := _, type := _, pos := _, after := _, guard := _ }) (v := .tuple #[.agg #[.slice B9 l9 c9], .int .i64 (0 : Int)]) rfl (by kernel_rfl) (by kernel_rfl) (by kernel_rfl) (fun _ _ _ h => h) (Or.inl ⟨by rfl, fun w' hSw => ?_⟩) (by assumption) ?_
                        · ((try dsimp only at hSw); go_simp)
                        try simp only [Act.put, List.setIfInBounds_toArray, List.set_cons_zero, List.set_cons_succ]
                        refine wpAnyH_take (i := 8) (oi := { dst := some 118, op := _, type := _, pos := _, after := _, guard := _ }) (v := .agg #[.slice B9 l9 c9]) rfl (by kernel_rfl) (by kernel_rfl) (by kernel_rfl) (fun _ _ _ h => h) (Or.inl ⟨by rfl, fun w' hSw => ?_⟩) (by assumption) ?_
                        · ((try dsimp only at hSw); go_simp)
                        try simp only [Act.put, List.setIfInBounds_toArray, List.set_cons_zero, List.set_cons_succ]
                        refine wpAnyH_take (i := 9) (oi := { dst := some 119, op := _, type := _, pos := _, after := _, guard := _ }) (v := .int .i64 (0 : Int)) rfl (by kernel_rfl) (by kernel_rfl) (by kernel_rfl) (fun _ _ _ h => h) (Or.inl ⟨by rfl, fun w' hSw => ?_⟩) (by assumption) ?_
                        · ((try dsimp only at hSw); go_simp)
                        try simp only [Act.put, List.setIfInBounds_toArray, List.set_cons_zero, List.set_cons_succ]
                        refine wpAnyH_ready (rs := [11]) (by kernel_rfl) (by simp) ?_
                        refine AllReadyH.cons rfl (fun K hK => ?_) AllReadyH.nil
                        have hg : wc8.grownBy (wc8.setCell ⟨wp3.heap.size, 0, none⟩ (.slice B9 l9 c9)) (some (wp3.heap.size)) := setCells_grown wc8 (wp3.heap.size) 0 [.slice B9 l9 c9]
                        have hbs : Below w5.heap.size w5 (wc8.setCell ⟨wp3.heap.size, 0, none⟩ (.slice B9 l9 c9)) := below_set XC8.out HLG.out XC8.out.size
                        have XT := Lib.hid hbs
                        have HT9 : Hid (TrC (wc8.setCell ⟨wp3.heap.size, 0, none⟩ (.slice B9 l9 c9)) B9 l9 c9 kw) := tree_c.set HKU.out HG.out hg
                        have HG9 : Hid (TAt (wc8.setCell ⟨wp3.heap.size, 0, none⟩ (.slice B9 l9 c9)) (wp3.heap.size) B9 l9 c9) := HG.out.set B9 l9 c9
                        have m0 := HG.out.c0
                        have mf0 := HG.out.fz 0
                        clear hg hbs HKU HG
                        go_simp
                        refine hK.out _ _ (HKS.out _ XT.out) (fun hHeld11 => ?_)
                        clear hK K hHeld6 m0 mf0
                        try simp only [Act.put, List.setIfInBounds_toArray, List.set_cons_zero, List.set_cons_succ]
                        generalize hwn : (wc8.setCell ⟨wp3.heap.size, 0, none⟩ (.slice B9 l9 c9)) = wt at *
                        clear hwn
                        refine wpAnyH_take (i := 12) (oi := { dst := some 19, op := _, type := _, pos := _, after := _, guard := _ }) (v := .int .i64 (0 : Int)) rfl (by kernel_rfl) (by kernel_rfl) (by kernel_rfl) (fun _ _ _ h => h) (Or.inl ⟨by rfl, fun w' hSw => ?_⟩) (by assumption) ?_
                        · ((try dsimp only at hSw); go_simp)
                        try simp only [Act.put, List.setIfInBounds_toArray, List.set_cons_zero, List.set_cons_succ]
                        refine wpAnyH_done (by kernel_rfl) ?_ _
                        refine NoPanic.normal ?_
                        go_wp2_with fail
                        go_meet
                        case rel => exact ⟨wp3.heap.size, B9, l9, c9, kw, rfl, rfl, ⟨HT9.out, HG9.out, HKW.out, XT.out⟩⟩
                    · have hb : Below wp2.heap.size wp2 (wp2.alloc (.cells #[.slice none 0 0] 43)) := (Below.refl _ _).alloc (Nat.le_refl _) _
                      have XA10 := Lib.hid (XP2.out.trans (hb.mono XP2.out.size))
                      replace HO := Lib.hid (HO.out.kept hb)
                      have HG : Hid (TAt (wp2.alloc (.cells #[.slice none 0 0] 43)) wp2.heap.size none 0 0) := TAt.new_ wp2 none 0 0
                      have HLG : Hid (w5.heap.size ≤ wp2.heap.size) := XP2.out.size
                      clear hb
                      go_simp
                      refine hK.out _ _ (HKS.out _ XA10.out) (fun hHeld10 => ?_)
                      clear hK K hHeld3
                      try simp only [Act.put, List.setIfInBounds_toArray, List.set_cons_zero, List.set_cons_succ]
                      generalize hwn : (wp2.alloc (.cells #[.slice none 0 0] 43)) = wa10 at *
                      clear hwn
                      refine wpAnyH_ready (rs := [5]) (by kernel_rfl) (by simp) ?_
                      refine AllReadyH.cons rfl (fun K hK => ?_) AllReadyH.nil
                      refine step_append_prims 116 rfl rfl _ _ rfl w5.heap.size (.slice AP2 N cp2) l7 rfl HO.out lb A2 lb.length c2 rfl H2.out.len H2.out.room.1 (H2.out.on XA10.out).at_ XA10.out.size HLE2.out M HM.out ?_
                      intro AP11 cp11 wp11 ho hg
                      have hb : Below w5.heap.size w5 wp11 := below_appendp XA10.out HO.out hg (Nat.le_refl _)
                      have XP11 := Lib.hid hb
                      replace HG := Lib.hid (HG.out.grown hg (own_not_tree HO.out HG.out))
                      replace HO : Hid (OwnP wp11 w5.heap.size (.slice AP11 M cp11) (l7 ++ lb)) := ho
                      clear ho hg hb
                      refine hK.out _ _ (HKS.out _ XP11.out) (fun hHeld5 => ?_)
                      clear hK K hHeld10
                      try simp only [Act.put, List.setIfInBounds_toArray, List.set_cons_zero, List.set_cons_succ]
                      refine wpAnyH_ready (rs := [6]) (by kernel_rfl) (by simp) ?_
                      refine AllReadyH.cons rfl (fun K hK => ?_) AllReadyH.nil
                      go_simp
                      go_at_call 17
                      refine (CP.out _ XP11.out AP11 M cp11 (roww_app H7.out H2.out XP11.out HO.out)).mono ?_
                      rintro e wc12 ⟨B9, l9, c9, rfl, ht9, hb⟩
                      obtain ⟨kw, hkx, hkr⟩ := tree_back ht9
                      have XC12 := Lib.hid (XP11.out.trans (hb.mono XP11.out.size))
                      have HKU := Lib.hid hkx
                      have HKW := Lib.hid hkr
                      replace HG := Lib.hid (HG.out.on hb)
                      clear ht9 hkx hkr hb HO
                      refine hK.out _ _ (HKS.out _ XC12.out) (fun hHeld6 => ?_)
                      clear hK K hHeld5
                      try simp only [Act.put, List.setIfInBounds_toArray, List.set_cons_zero, List.set_cons_succ]
                      refine wpAnyH_take (i := 7) (oi := { dst := some 110, op := _, type := _, pos := _, after := _, guard := _ }) (v := .tuple #[.agg #[.slice B9 l9 c9], .int .i64 (0 : Int)]) rfl (by kernel_rfl) (by kernel_rfl) (by kernel_rfl) (fun _ _ _ h => h) (Or.inl ⟨by rfl, fun w' hSw => ?_⟩) (by assumption) ?_
                      · ((try dsimp only at hSw); go_simp)
                      try simp only [Act.put, List.setIfInBounds_toArray, List.set_cons_zero, List.set_cons_succ]
                      refine wpAnyH_take (i := 8) (oi := { dst := some 118, op := _, type := _, pos := _, after := _, guard := _ }) (v := .agg #[.slice B9 l9 c9]) rfl (by kernel_rfl) (by kernel_rfl) (by kernel_rfl) (fun _ _ _ h => h) (Or.inl ⟨by rfl, fun w' hSw => ?_⟩) (by assumption) ?_
                      · ((try dsimp only at hSw); go_simp)
                      try simp only [Act.put, List.setIfInBounds_toArray, List.set_cons_zero, List.set_cons_succ]
                      refine wpAnyH_take (i := 9) (oi := { dst := some 119, op := _, type := _, pos := _, after := _, guard := _ }) (v := .int .i64 (0 : Int)) rfl (by kernel_rfl) (by kernel_rfl) (by kernel_rfl) (fun _ _ _ h => h) (Or.inl ⟨by rfl, fun w' hSw => ?_⟩) (by assumption) ?_
                      · ((try dsimp only at hSw); go_simp)
                      try simp only [Act.put, List.setIfInBounds_toArray, List.set_cons_zero, List.set_cons_succ]
                      refine wpAnyH_ready (rs := [11]) (by kernel_rfl) (by simp) ?_
                      refine AllReadyH.cons rfl (fun K hK => ?_) AllReadyH.nil
                      have hg : wc12.grownBy (wc12.setCell ⟨wp2.heap.size, 0, none⟩ (.slice B9 l9 c9)) (some (wp2.heap.size)) := setCells_grown wc12 (wp2.heap.size) 0 [.slice B9 l9 c9]
                      have hbs : Below w5.heap.size w5 (wc12.setCell ⟨wp2.heap.size, 0, none⟩ (.slice B9 l9 c9)) := below_set XC12.out HLG.out XC12.out.size
                      have XT := Lib.hid hbs
                      have HT9 : Hid (TrC (wc12.setCell ⟨wp2.heap.size, 0, none⟩ (.slice B9 l9 c9)) B9 l9 c9 kw) := tree_c.set HKU.out HG.out hg
                      have HG9 : Hid (TAt (wc12.setCell ⟨wp2.heap.size, 0, none⟩ (.slice B9 l9 c9)) (wp2.heap.size) B9 l9 c9) := HG.out.set B9 l9 c9
                      have m0 := HG.out.c0
                      have mf0 := HG.out.fz 0
                      clear hg hbs HKU HG
                      go_simp
                      refine hK.out _ _ (HKS.out _ XT.out) (fun hHeld11 => ?_)
                      clear hK K hHeld6 m0 mf0
                      try simp only [Act.put, List.setIfInBounds_toArray, List.set_cons_zero, List.set_cons_succ]
                      generalize hwn : (wc12.setCell ⟨wp2.heap.size, 0, none⟩ (.slice B9 l9 c9)) = wt at *
                      clear hwn
                      refine wpAnyH_take (i := 12) (oi := { dst := some 19, op := _, type := _, pos := _, after := _, guard := _ }) (v := .int .i64 (0 : Int)) rfl (by kernel_rfl) (by kernel_rfl) (by kernel_rfl) (fun _ _ _ h => h) (Or.inl ⟨by rfl, fun w' hSw => ?_⟩) (by assumption) ?_
                      · ((try dsimp only at hSw); go_simp)
                      try simp only [Act.put, List.setIfInBounds_toArray, List.set_cons_zero, List.set_cons_succ]
                      refine wpAnyH_done (by kernel_rfl) ?_ _
                      refine NoPanic.normal ?_
                      go_wp2_with fail
                      go_meet
                      case rel => exact ⟨wp2.heap.size, B9, l9, c9, kw, rfl, rfl, ⟨HT9.out, HG9.out, HKW.out, XT.out⟩⟩
                  · have hb : Below we1.heap.size we1 (we1.alloc (.cells #[.slice none 0 0] 43)) := (Below.refl _ _).alloc (Nat.le_refl _) _
                    have XA14 := Lib.hid (XE1.out.trans (hb.mono XE1.out.size))
                    replace HO := Lib.hid (HO.out.kept hb)
                    have HG : Hid (TAt (we1.alloc (.cells #[.slice none 0 0] 43)) we1.heap.size none 0 0) := TAt.new_ we1 none 0 0
                    have HLG : Hid (w5.heap.size ≤ we1.heap.size) := XE1.out.size
                    clear hb
                    go_simp
                    refine hK.out _ _ (HKS.out _ XA14.out) (fun hHeld10 => ?_)
                    clear hK K hHeld1
                    try simp only [Act.put, List.setIfInBounds_toArray, List.set_cons_zero, List.set_cons_succ]
                    generalize hwn : (we1.alloc (.cells #[.slice none 0 0] 43)) = wa14 at *
                    clear hwn
                    refine wpAnyH_ready (rs := [3]) (by kernel_rfl) (by simp) ?_
                    refine AllReadyH.cons rfl (fun K hK => ?_) AllReadyH.nil
                    refine step_append_prims 114 rfl rfl _ _ rfl w5.heap.size (.slice (some ⟨wD.heap.size, 0, none⟩) 0 0) [] rfl HO.out l7 A7 n7 d7 rfl H7.out.len H7.out.room.1 (H7.out.on XA14.out).at_ XA14.out.size HLE1.out N HN.out ?_
                    intro AP15 cp15 wp15 ho hg
                    have hb : Below w5.heap.size w5 wp15 := below_appendp XA14.out HO.out hg (Nat.le_refl _)
                    have XP15 := Lib.hid hb
                    replace HG := Lib.hid (HG.out.grown hg (own_not_tree HO.out HG.out))
                    replace HO : Hid (OwnP wp15 w5.heap.size (.slice AP15 N cp15) l7) := ho
                    clear ho hg hb
                    refine hK.out _ _ (HKS.out _ XP15.out) (fun hHeld3 => ?_)
                    clear hK K hHeld10
                    try simp only [Act.put, List.setIfInBounds_toArray, List.set_cons_zero, List.set_cons_succ]
                    refine wpAnyH_ready (rs := [5]) (by kernel_rfl) (by simp) ?_
                    refine AllReadyH.cons rfl (fun K hK => ?_) AllReadyH.nil
                    refine step_append_prims 116 rfl rfl _ _ rfl w5.heap.size (.slice AP15 N cp15) l7 rfl HO.out lb A2 lb.length c2 rfl H2.out.len H2.out.room.1 (H2.out.on XP15.out).at_ XP15.out.size HLE2.out M HM.out ?_
                    intro AP16 cp16 wp16 ho hg
                    have hb : Below w5.heap.size w5 wp16 := below_appendp XP15.out HO.out hg (Nat.le_refl _)
                    have XP16 := Lib.hid hb
                    replace HG := Lib.hid (HG.out.grown hg (own_not_tree HO.out HG.out))
                    replace HO : Hid (OwnP wp16 w5.heap.size (.slice AP16 M cp16) (l7 ++ lb)) := ho
                    clear ho hg hb
                    refine hK.out _ _ (HKS.out _ XP16.out) (fun hHeld5 => ?_)
                    clear hK K hHeld3
                    try simp only [Act.put, List.setIfInBounds_toArray, List.set_cons_zero, List.set_cons_succ]
                    refine wpAnyH_ready (rs := [6]) (by kernel_rfl) (by simp) ?_
                    refine AllReadyH.cons rfl (fun K hK => ?_) AllReadyH.nil
                    go_simp
                    go_at_call 17
                    refine (CP.out _ XP16.out AP16 M cp16 (roww_app H7.out H2.out XP16.out HO.out)).mono ?_
                    rintro e wc17 ⟨B9, l9, c9, rfl, ht9, hb⟩
                    obtain ⟨kw, hkx, hkr⟩ := tree_back ht9
                    have XC17 := Lib.hid (XP16.out.trans (hb.mono XP16.out.size))
                    have HKU := Lib.hid hkx
                    have HKW := Lib.hid hkr
                    replace HG := Lib.hid (HG.out.on hb)
                    clear ht9 hkx hkr hb HO
                    refine hK.out _ _ (HKS.out _ XC17.out) (fun hHeld6 => ?_)
                    clear hK K hHeld5
                    try simp only [Act.put, List.setIfInBounds_toArray, List.set_cons_zero, List.set_cons_succ]
                    refine wpAnyH_take (i := 7) (oi := { dst := some 110, op := _, type := _, pos := _, after := _, guard := _ }) (v := .tuple #[.agg #[.slice B9 l9 c9], .int .i64 (0 : Int)]) rfl (by kernel_rfl) (by kernel_rfl) (by kernel_rfl) (fun _ _ _ h => h) (Or.inl ⟨by rfl, fun w' hSw => ?_⟩) (by assumption) ?_
                    · ((try dsimp only at hSw); go_simp)
                    try simp only [Act.put, List.setIfInBounds_toArray, List.set_cons_zero, List.set_cons_succ]
                    refine wpAnyH_take (i := 8) (oi := { dst := some 118, op := _, type := _, pos := _, after := _, guard := _ }) (v := .agg #[.slice B9 l9 c9]) rfl (by kernel_rfl) (by kernel_rfl) (by kernel_rfl) (fun _ _ _ h => h) (Or.inl ⟨by rfl, fun w' hSw => ?_⟩) (by assumption) ?_
                    · ((try dsimp only at hSw); go_simp)
                    try simp only [Act.put, List.setIfInBounds_toArray, List.set_cons_zero, List.set_cons_succ]
                    refine wpAnyH_take (i := 9) (oi := { dst := some 119, op := _, type := _, pos := _, after := _, guard := _ }) (v := .int .i64 (0 : Int)) rfl (by kernel_rfl) (by kernel_rfl) (by kernel_rfl) (fun _ _ _ h => h) (Or.inl ⟨by rfl, fun w' hSw => ?_⟩) (by assumption) ?_
                    · ((try dsimp only at hSw); go_simp)
                    try simp only [Act.put, List.setIfInBounds_toArray, List.set_cons_zero, List.set_cons_succ]
                    refine wpAnyH_ready (rs := [11]) (by kernel_rfl) (by simp) ?_
                    refine AllReadyH.cons rfl (fun K hK => ?_) AllReadyH.nil
                    have hg : wc17.grownBy (wc17.setCell ⟨we1.heap.size, 0, none⟩ (.slice B9 l9 c9)) (some (we1.heap.size)) := setCells_grown wc17 (we1.heap.size) 0 [.slice B9 l9 c9]
                    have hbs : Below w5.heap.size w5 (wc17.setCell ⟨we1.heap.size, 0, none⟩ (.slice B9 l9 c9)) := below_set XC17.out HLG.out XC17.out.size
                    have XT := Lib.hid hbs
                    have HT9 : Hid (TrC (wc17.setCell ⟨we1.heap.size, 0, none⟩ (.slice B9 l9 c9)) B9 l9 c9 kw) := tree_c.set HKU.out HG.out hg
                    have HG9 : Hid (TAt (wc17.setCell ⟨we1.heap.size, 0, none⟩ (.slice B9 l9 c9)) (we1.heap.size) B9 l9 c9) := HG.out.set B9 l9 c9
                    have m0 := HG.out.c0
                    have mf0 := HG.out.fz 0
                    clear hg hbs HKU HG
                    go_simp
                    refine hK.out _ _ (HKS.out _ XT.out) (fun hHeld11 => ?_)
                    clear hK K hHeld6 m0 mf0
                    try simp only [Act.put, List.setIfInBounds_toArray, List.set_cons_zero, List.set_cons_succ]
                    generalize hwn : (wc17.setCell ⟨we1.heap.size, 0, none⟩ (.slice B9 l9 c9)) = wt at *
                    clear hwn
                    refine wpAnyH_take (i := 12) (oi := { dst := some 19, op := _, type := _, pos := _, after := _, guard := _ }) (v := .int .i64 (0 : Int)) rfl (by kernel_rfl) (by kernel_rfl) (by kernel_rfl) (fun _ _ _ h => h) (Or.inl ⟨by rfl, fun w' hSw => ?_⟩) (by assumption) ?_
                    · ((try dsimp only at hSw); go_simp)
                    try simp only [Act.put, List.setIfInBounds_toArray, List.set_cons_zero, List.set_cons_succ]
                    refine wpAnyH_done (by kernel_rfl) ?_ _
                    refine NoPanic.normal ?_
                    go_wp2_with fail
                    go_meet
                    case rel => exact ⟨we1.heap.size, B9, l9, c9, kw, rfl, rfl, ⟨HT9.out, HG9.out, HKW.out, XT.out⟩⟩
                · have hb : Below wD.heap.size wD (wD.alloc (.cells #[.slice none 0 0] 43)) := (Below.refl _ _).alloc (Nat.le_refl _) _
                  have XA19 := Lib.hid (XB0.out.trans (hb.mono XB0.out.size))
                  have HG : Hid (TAt (wD.alloc (.cells #[.slice none 0 0] 43)) wD.heap.size none 0 0) := TAt.new_ wD none 0 0
                  have HLG : Hid (w5.heap.size ≤ wD.heap.size) := XB0.out.size
                  clear hb
                  go_simp
                  refine hK.out _ _ (HKS.out _ XA19.out) (fun hHeld10 => ?_)
                  clear hK K hHeld
                  try simp only [Act.put, List.setIfInBounds_toArray, List.set_cons_zero, List.set_cons_succ]
                  generalize hwn : (wD.alloc (.cells #[.slice none 0 0] 43)) = wa19 at *
                  clear hwn
                  refine wpAnyH_ready (rs := [1]) (by kernel_rfl) (by simp) ?_
                  refine AllReadyH.cons rfl (fun K hK => ?_) AllReadyH.nil
                  have hb : Below wa19.heap.size wa19 (wa19.alloc (.cells #[] 33)) := (Below.refl _ _).alloc (Nat.le_refl _) _
                  have XE20 := Lib.hid (XA19.out.trans (hb.mono XA19.out.size))
                  have HO := Lib.hid (own_madep wa19 w5.heap.size XA19.out.size)
                  replace HG := Lib.hid (HG.out.on hb)
                  clear hb
                  go_simp
                  refine hK.out _ _ (HKS.out _ XE20.out) (fun hHeld1 => ?_)
                  clear hK K hHeld10
                  try simp only [Act.put, List.setIfInBounds_toArray, List.set_cons_zero, List.set_cons_succ]
                  generalize hwn : (wa19.alloc (.cells #[] 33)) = we20 at *
                  clear hwn
                  refine wpAnyH_ready (rs := [3]) (by kernel_rfl) (by simp) ?_
                  refine AllReadyH.cons rfl (fun K hK => ?_) AllReadyH.nil
                  refine step_append_prims 114 rfl rfl _ _ rfl w5.heap.size (.slice (some ⟨wa19.heap.size, 0, none⟩) 0 0) [] rfl HO.out l7 A7 n7 d7 rfl H7.out.len H7.out.room.1 (H7.out.on XE20.out).at_ XE20.out.size HLE1.out N HN.out ?_
                  intro AP21 cp21 wp21 ho hg
                  have hb : Below w5.heap.size w5 wp21 := below_appendp XE20.out HO.out hg (Nat.le_refl _)
                  have XP21 := Lib.hid hb
                  replace HG := Lib.hid (HG.out.grown hg (own_not_tree HO.out HG.out))
                  replace HO : Hid (OwnP wp21 w5.heap.size (.slice AP21 N cp21) l7) := ho
                  clear ho hg hb
                  refine hK.out _ _ (HKS.out _ XP21.out) (fun hHeld3 => ?_)
                  clear hK K hHeld1
                  try simp only [Act.put, List.setIfInBounds_toArray, List.set_cons_zero, List.set_cons_succ]
                  refine wpAnyH_ready (rs := [5]) (by kernel_rfl) (by simp) ?_
                  refine AllReadyH.cons rfl (fun K hK => ?_) AllReadyH.nil
                  refine step_append_prims 116 rfl rfl _ _ rfl w5.heap.size (.slice AP21 N cp21) l7 rfl HO.out lb A2 lb.length c2 rfl H2.out.len H2.out.room.1 (H2.out.on XP21.out).at_ XP21.out.size HLE2.out M HM.out ?_
                  intro AP22 cp22 wp22 ho hg
                  have hb : Below w5.heap.size w5 wp22 := below_appendp XP21.out HO.out hg (Nat.le_refl _)
                  have XP22 := Lib.hid hb
                  replace HG := Lib.hid (HG.out.grown hg (own_not_tree HO.out HG.out))
                  replace HO : Hid (OwnP wp22 w5.heap.size (.slice AP22 M cp22) (l7 ++ lb)) := ho
                  clear ho hg hb
                  refine hK.out _ _ (HKS.out _ XP22.out) (fun hHeld5 => ?_)
                  clear hK K hHeld3
                  try simp only [Act.put, List.setIfInBounds_toArray, List.set_cons_zero, List.set_cons_succ]
                  refine wpAnyH_ready (rs := [6]) (by kernel_rfl) (by simp) ?_
                  refine AllReadyH.cons rfl (fun K hK => ?_) AllReadyH.nil
                  go_simp
                  go_at_call 17
                  refine (CP.out _ XP22.out AP22 M cp22 (roww_app H7.out H2.out XP22.out HO.out)).mono ?_
                  rintro e wc23 ⟨B9, l9, c9, rfl, ht9, hb⟩
                  obtain ⟨kw, hkx, hkr⟩ := tree_back ht9
                  have XC23 := Lib.hid (XP22.out.trans (hb.mono XP22.out.size))
                  have HKU := Lib.hid hkx
                  have HKW := Lib.hid hkr
                  replace HG := Lib.hid (HG.out.on hb)
                  clear ht9 hkx hkr hb HO
                  refine hK.out _ _ (HKS.out _ XC23.out) (fun hHeld6 => ?_)
                  clear hK K hHeld5
                  try simp only [Act.put, List.setIfInBounds_toArray, List.set_cons_zero, List.set_cons_succ]
                  refine wpAnyH_take (i := 7) (oi := { dst := some 110, op := _, type := _, pos := _, after := _, guard := _ }) (v := .tuple #[.agg #[.slice B9 l9 c9], .int .i64 (0 : Int)]) rfl (by kernel_rfl) (by kernel_rfl) (by kernel_rfl) (fun _ _ _ h => h) (Or.inl ⟨by rfl, fun w' hSw => ?_⟩) (by assumption) ?_
                  · ((try dsimp only at hSw); go_simp)
                  try simp only [Act.put, List.setIfInBounds_toArray, List.set_cons_zero, List.set_cons_succ]
                  refine wpAnyH_take (i := 8) (oi := { dst := some 118, op := _, type := _, pos := _, after := _, guard := _ }) (v := .agg #[.slice B9 l9 c9]) rfl (by kernel_rfl) (by kernel_rfl) (by kernel_rfl) (fun _ _ _ h => h) (Or.inl ⟨by rfl, fun w' hSw => ?_⟩) (by assumption) ?_
                  · ((try dsimp only at hSw); go_simp)
                  try simp only [Act.put, List.setIfInBounds_toArray, List.set_cons_zero, List.set_cons_succ]
                  refine wpAnyH_take (i := 9) (oi := { dst := some 119, op := _, type := _, pos := _, after := _, guard := _ }) (v := .int .i64 (0 : Int)) rfl (by kernel_rfl) (by kernel_rfl) (by kernel_rfl) (fun _ _ _ h => h) (Or.inl ⟨by rfl, fun w' hSw => ?_⟩) (by assumption) ?_
                  · ((try dsimp only at hSw); go_simp)
                  try simp only [Act.put, List.setIfInBounds_toArray, List.set_cons_zero, List.set_cons_succ]
                  refine wpAnyH_ready (rs := [11]) (by kernel_rfl) (by simp) ?_
                  refine AllReadyH.cons rfl (fun K hK => ?_) AllReadyH.nil
                  have hg : wc23.grownBy (wc23.setCell ⟨wD.heap.size, 0, none⟩ (.slice B9 l9 c9)) (some (wD.heap.size)) := setCells_grown wc23 (wD.heap.size) 0 [.slice B9 l9 c9]
                  have hbs : Below w5.heap.size w5 (wc23.setCell ⟨wD.heap.size, 0, none⟩ (.slice B9 l9 c9)) := below_set XC23.out HLG.out XC23.out.size
                  have XT := Lib.hid hbs
                  have HT9 : Hid (TrC (wc23.setCell ⟨wD.heap.size, 0, none⟩ (.slice B9 l9 c9)) B9 l9 c9 kw) := tree_c.set HKU.out HG.out hg
                  have HG9 : Hid (TAt (wc23.setCell ⟨wD.heap.size, 0, none⟩ (.slice B9 l9 c9)) (wD.heap.size) B9 l9 c9) := HG.out.set B9 l9 c9
                  have m0 := HG.out.c0
                  have mf0 := HG.out.fz 0
                  clear hg hbs HKU HG
                  go_simp
                  refine hK.out _ _ (HKS.out _ XT.out) (fun hHeld11 => ?_)
                  clear hK K hHeld6 m0 mf0
                  try simp only [Act.put, List.setIfInBounds_toArray, List.set_cons_zero, List.set_cons_succ]
                  generalize hwn : (wc23.setCell ⟨wD.heap.size, 0, none⟩ (.slice B9 l9 c9)) = wt at *
                  clear hwn
                  refine wpAnyH_take (i := 12) (oi := { dst := some 19, op := _, type := _, pos := _, after := _, guard := _ }) (v := .int .i64 (0 : Int)) rfl (by kernel_rfl) (by kernel_rfl) (by kernel_rfl) (fun _ _ _ h => h) (Or.inl ⟨by rfl, fun w' hSw => ?_⟩) (by assumption) ?_
                  · ((try dsimp only at hSw); go_simp)
                  try simp only [Act.put, List.setIfInBounds_toArray, List.set_cons_zero, List.set_cons_succ]
                  refine wpAnyH_done (by kernel_rfl) ?_ _
                  refine NoPanic.normal ?_
                  go_wp2_with fail
                  go_meet
                  case rel => exact ⟨wD.heap.size, B9, l9, c9, kw, rfl, rfl, ⟨HT9.out, HG9.out, HKW.out, XT.out⟩⟩
              case rest =>
                obtain ⟨g6, B6, l6, c6, kv, rfl, rfl, HQ⟩ := hcut
                have hbq := HQ.out.2.2.2
                have hg6 : HeldT wc g6 B6 l6 c6 kv := ⟨HQ.out.1, HQ.out.2.1⟩
                have KR := Lib.hid HQ.out.2.2.1
                clear HKS CP HDR HN HM HLE1 HLE2
                replace H1 := Lib.hid (H1.out.on hbq)
                replace H2 := Lib.hid (H2.out.on hbq)
                replace Ht1 := Lib.hid (Ht1.out.on hbq)
                replace Hg2 := Lib.hid (Hg2.out.on hbq)
                replace H7 := Lib.hid (H7.out.on hbq)
                replace HA := Lib.hid (HA.out.trans (hbq.mono HA.out.size))
                replace HT := Lib.hid (Tabs.on HT.out hbq)
                have Hg6 := Lib.hid hg6
                clear HQ hbq hg6
                generalize wc = wg6 at *
                have hkv := KR.out rfl
                subst hkv
                clear KR
                go_wp2_with fail
                refine (sawake_any _ HT.out).mono ?_
                rintro e w8 ⟨rfl, hb⟩
                replace Hg2 := Lib.hid (Hg2.out.on hb)
                replace Hg6 := Lib.hid (Hg6.out.on hb)
                replace HA := Lib.hid (HA.out.trans (hb.mono HA.out.size))
                replace HT := Lib.hid (Tabs.on HT.out hb)
                clear hb
                have t2 := Hg2.out.2.c0
                have t6 := Hg6.out.2.c0
                have cs := tree_c.same B2 l2 c4 kv B6 l6 c6 kv w8 Hg2.out.1 Hg6.out.1 HKL.out HKL.out
                rw [show decide (kv = kv) = true from decide_eq_true rfl] at cs
                have CS := Lib.hid cs
                clear cs
                go_wp2_with fail
                refine CS.out.mono ?_
                rintro e w9 ⟨rfl, hb⟩
                have HB := Lib.hid (HA.out.trans (hb.mono HA.out.size))
                clear hb t2 t6 CS
                go_wp2
                go_ret
                exact ⟨rfl, HB.out⟩
            · have en : (er7 != 0) = true := by simpa using h7
              clear h7 E7 H7
              go_wp2_with fail
              refine (sawake_any _ HT.out).mono ?_
              rintro e wz ⟨rfl, hb⟩
              have HB := Lib.hid (HA.out.trans (hb.mono HA.out.size))
              clear hb
              go_wp2
              go_ret
              exact ⟨rfl, HB.out⟩
        · have e3 : (er3 == 0) = false := by simpa using h3
          clear h3 E1 H3 H4
          go_wp2_with fail
          refine (seqfront_any A1 la _ c1 i _ H1.out L1.out (by have := HL.out; omega) HT.out).mono ?_
          rintro e w5 ⟨A7, n7, d7, l7, er7, rfl, hr, hb⟩
          replace H1 := Lib.hid (H1.out.on hb)
          replace H2 := Lib.hid (H2.out.on hb)
          replace Ht1 := Lib.hid (Ht1.out.on hb)
          replace Hg2 := Lib.hid (Hg2.out.on hb)
          replace HA := Lib.hid (HA.out.trans (hb.mono HA.out.size))
          replace HT := Lib.hid (Tabs.on HT.out hb)
          have H7 := Lib.hid hr.out.1
          have E7 := Lib.hid hr.out.2
          clear hr hb
          by_cases h7 : er7 = 0
          · subst h7
            have hsplit := apAll_split (by rw [← keys_app]; exact HAP.out)
            obtain ⟨js, hs1, hs2⟩ := hsplit
            have hfr : frontP (pkeys la) i.toNat = (0, pkeys l7) := by
              have h9 := E7.out
              unfold frontI at h9
              split at h9
              · exact h9
              · cases h9
            have hap7 : apAll kt (pkeys (l7 ++ lb)) = (0, ku) := by
              rw [keys_app]
              refine apAll_join (front_same KW.out (fun k hk => ?_) ?_ hs1 hfr) hs2
              · have h9 := KZ.out k hk
                have h8 := HC.out
                omega
              · have h8 := HC.out
                omega
            have hlt := front_lt (ltk_row L1.out) E7.out
            have HLB7 : Hid (∀ z ∈ l7 ++ lb, LtK z.key) := fun z hz => (List.mem_append.1 hz).elim (ltk_keys rfl hlt.1 z) (L2.out z)
            have HAB7 : Hid ((l7 ++ lb).length ≤ 30) := by
              show _ ≤ _
              have h8 := hlt.2
              rw [pkeys_len, pkeys_len] at h8
              rw [List.length_append]
              have h9 := HL.out
              omega
            have HAP7 := Lib.hid hap7
            clear hs1 hs2 hfr hap7 hlt E7
            go_upto_region 16 with (fail)
            have HKS : Hid (∀ W, Below w5.heap.size w5 W → W.cell? ⟨g1, 0, none⟩ = some (.slice B1 l1 c3)) := fun W hW => (Ht1.out.2.on hW).c0
            have CP := Lib.hid (all_c Ht1.out.1 KW.out KL.out (l7 ++ lb) HLB7.out HAB7.out HT.out HAP7.out)
            have HDR : Hid (Below w5.heap.size w5 w5.drew) := (Below.refl _ _).drew
            obtain ⟨N, hN⟩ : ∃ N, N = ([] : List Pm).length + l7.length := ⟨_, rfl⟩
            obtain ⟨M, hM⟩ : ∃ M, M = l7.length + lb.length := ⟨_, rfl⟩
            have HN := Lib.hid hN
            have HM := Lib.hid hM
            have HLE1 : Hid (([] : List Pm).length + l7.length ≤ 100000) := by show _ ≤ _; have h9 := HAB7.out; simp only [List.length_append] at h9; simp only [List.length_nil]; omega
            have HLE2 : Hid (l7.length + lb.length ≤ 100000) := by show _ ≤ _; have h9 := HAB7.out; simp only [List.length_append] at h9; omega
            clear hN hM
            go_upto_region 16 with (fail)
            go_cut [18, 19] from 20 (fun pt pe wx => ∃ (g9 : Nat) (B9 : Option Addr) (l9 c9 : Nat) (kw : List PF), pt = .pointer (some ⟨g9, 0, none⟩) ∧ pe = .int .i64 (0 : Int) ∧ Hid (TrC wx B9 l9 c9 kw ∧ TAt wx g9 B9 l9 c9 ∧ ((0 : Int) = (0 : Int) → kw = ku) ∧ Below w5.heap.size w5 wx))
            case first =>
              clear HKL
              refine wp_region_noPanic ?_
              refine wp_region_held_drew (S := (fun w' => w'.cell? ⟨g1, 0, none⟩ = some (.slice B1 l1 c3))) (by kernel_rfl) (HKS.out _ HDR.out) (fun hHeld => ?_)
              refine wpAnyH_take (i := 0) (oi := { dst := some 111, op := _, type := _, pos := _, after := _, guard := _ }) (v := .agg #[.slice B1 l1 c3]) rfl (by kernel_rfl) (by kernel_rfl) (by kernel_rfl) (fun _ _ _ h => h) (Or.inl ⟨by rfl, fun w' hSw => ?_⟩) (by assumption) ?_
              · ((try dsimp only at hSw); go_simp)
              try simp only [Act.put, List.setIfInBounds_toArray, List.set_cons_zero, List.set_cons_succ]
              refine wpAnyH_take (i := 2) (oi := { dst := some 113, op := _, type := _, pos := _, after := _, guard := _ }) (v := .slice A7 n7 d7) rfl (by kernel_rfl) (by kernel_rfl) (by kernel_rfl) (fun _ _ _ h => h) (Or.inl ⟨by rfl, fun w' hSw => ?_⟩) (by assumption) ?_
              · ((try dsimp only at hSw); go_simp)
              try simp only [Act.put, List.setIfInBounds_toArray, List.set_cons_zero, List.set_cons_succ]
              refine wpAnyH_take (i := 4) (oi := { dst := some 115, op := _, type := _, pos := _, after := _, guard := _ }) (v := .slice A2 lb.length c2) rfl (by kernel_rfl) (by kernel_rfl) (by kernel_rfl) (fun _ _ _ h => h) (Or.inl ⟨by rfl, fun w' hSw => ?_⟩) (by assumption) ?_
              · ((try dsimp only at hSw); go_simp)
              try simp only [Act.put, List.setIfInBounds_toArray, List.set_cons_zero, List.set_cons_succ]
              have XB0 := Lib.hid HDR.out
              generalize hwD : w5.drew = wD at *
              clear hwD HDR
              refine wpAnyH_ready (rs := [1, 10]) (by kernel_rfl) (by simp) ?_
              refine AllReadyH.cons rfl (fun K hK => ?_) (AllReadyH.cons rfl (fun K hK => ?_) AllReadyH.nil)
              · have hb : Below wD.heap.size wD (wD.alloc (.cells #[] 33)) := (Below.refl _ _).alloc (Nat.le_refl _) _
                have XE1 := Lib.hid (XB0.out.trans (hb.mono XB0.out.size))
                have HO := Lib.hid (own_madep wD w5.heap.size XB0.out.size)
                clear hb
                go_simp
                refine hK.out _ _ (HKS.out _ XE1.out) (fun hHeld1 => ?_)
                clear hK K hHeld
                try simp only [Act.put, List.setIfInBounds_toArray, List.set_cons_zero, List.set_cons_succ]
                generalize hwn : (wD.alloc (.cells #[] 33)) = we1 at *
                clear hwn
                refine wpAnyH_ready (rs := [3, 10]) (by kernel_rfl) (by simp) ?_
                refine AllReadyH.cons rfl (fun K hK => ?_) (AllReadyH.cons rfl (fun K hK => ?_) AllReadyH.nil)
                · refine step_append_prims 114 rfl rfl _ _ rfl w5.heap.size (.slice (some ⟨wD.heap.size, 0, none⟩) 0 0) [] rfl HO.out l7 A7 n7 d7 rfl H7.out.len H7.out.room.1 (H7.out.on XE1.out).at_ XE1.out.size HLE1.out N HN.out ?_
                  intro AP2 cp2 wp2 ho hg
                  have hb : Below w5.heap.size w5 wp2 := below_appendp XE1.out HO.out hg (Nat.le_refl _)
                  have XP2 := Lib.hid hb
                  replace HO : Hid (OwnP wp2 w5.heap.size (.slice AP2 N cp2) l7) := ho
                  clear ho hg hb
                  refine hK.out _ _ (HKS.out _ XP2.out) (fun hHeld3 => ?_)
                  clear hK K hHeld1
                  try simp only [Act.put, List.setIfInBounds_toArray, List.set_cons_zero, List.set_cons_succ]
                  refine wpAnyH_ready (rs := [5, 10]) (by kernel_rfl) (by simp) ?_
                  refine AllReadyH.cons rfl (fun K hK => ?_) (AllReadyH.cons rfl (fun K hK => ?_) AllReadyH.nil)
                  · refine step_append_prims 116 rfl rfl _ _ rfl w5.heap.size (.slice AP2 N cp2) l7 rfl HO.out lb A2 lb.length c2 rfl H2.out.len H2.out.room.1 (H2.out.on XP2.out).at_ XP2.out.size HLE2.out M HM.out ?_
                    intro AP3 cp3 wp3 ho hg
                    have hb : Below w5.heap.size w5 wp3 := below_appendp XP2.out HO.out hg (Nat.le_refl _)
                    have XP3 := Lib.hid hb
                    replace HO : Hid (OwnP wp3 w5.heap.size (.slice AP3 M cp3) (l7 ++ lb)) := ho
                    clear ho hg hb
                    refine hK.out _ _ (HKS.out _ XP3.out) (fun hHeld5 => ?_)
                    clear hK K hHeld3
                    try simp only [Act.put, List.setIfInBounds_toArray, List.set_cons_zero, List.set_cons_succ]
                    refine wpAnyH_ready (rs := [6, 10]) (by kernel_rfl) (by simp) ?_
                    refine AllReadyH.cons rfl (fun K hK => ?_) (AllReadyH.cons rfl (fun K hK => ?_) AllReadyH.nil)
                    · go_simp
                      go_at_call 17
                      refine (CP.out _ XP3.out AP3 M cp3 (roww_app H7.out H2.out XP3.out HO.out)).mono ?_
                      rintro e wc4 ⟨B9, l9, c9, rfl, ht9, hb⟩
                      obtain ⟨kw, hku, hkr⟩ := tree_back ht9
                      have XC4 := Lib.hid (XP3.out.trans (hb.mono XP3.out.size))
                      have HKU := Lib.hid hku
                      have HKW := Lib.hid hkr
                      clear ht9 hku hkr hb HO
                      refine hK.out _ _ (HKS.out _ XC4.out) (fun hHeld6 => ?_)
                      clear hK K hHeld5
                      try simp only [Act.put, List.setIfInBounds_toArray, List.set_cons_zero, List.set_cons_succ]
                      refine wpAnyH_take (i := 7) (oi := { dst := some 110, op := _, type := _, pos := _, after := _, guard := _ }) (v := .tuple #[.agg #[.slice B9 l9 c9], .int .i64 (0 : Int)]) rfl (by kernel_rfl) (by kernel_rfl) (by kernel_rfl) (fun _ _ _ h => h) (Or.inl ⟨by rfl, fun w' hSw => ?_⟩) (by assumption) ?_
                      · ((try dsimp only at hSw); go_simp)
                      try simp only [Act.put, List.setIfInBounds_toArray, List.set_cons_zero, List.set_cons_succ]
                      refine wpAnyH_take (i := 8) (oi := { dst := some 118, op := _, type := _, pos := _, after := _, guard := _ }) (v := .agg #[.slice B9 l9 c9]) rfl (by kernel_rfl) (by kernel_rfl) (by kernel_rfl) (fun _ _ _ h => h) (Or.inl ⟨by rfl, fun w' hSw => ?_⟩) (by assumption) ?_
                      · ((try dsimp only at hSw); go_simp)
                      try simp only [Act.put, List.setIfInBounds_toArray, List.set_cons_zero, List.set_cons_succ]
                      refine wpAnyH_take (i := 9) (oi := { dst := some 119, op := _, type := _, pos := _, after := _, guard := _ }) (v := .int .i64 (0 : Int)) rfl (by kernel_rfl) (by kernel_rfl) (by kernel_rfl) (fun _ _ _ h => h) (Or.inl ⟨by rfl, fun w' hSw => ?_⟩) (by assumption) ?_
                      · ((try dsimp only at hSw); go_simp)
                      try simp only [Act.put, List.setIfInBounds_toArray, List.set_cons_zero, List.set_cons_succ]
                      refine wpAnyH_ready (rs := [10]) (by kernel_rfl) (by simp) ?_
                      refine AllReadyH.cons rfl (fun K hK => ?_) AllReadyH.nil
                      have hb : Below wc4.heap.size wc4 (wc4.alloc (.cells #[.slice none 0 0] 43)) := (Below.refl _ _).alloc (Nat.le_refl _) _
                      have XA5 := Lib.hid (XC4.out.trans (hb.mono XC4.out.size))
                      replace HKU := Lib.hid (tree_c.on HKU.out hb)
                      have HG : Hid (TAt (wc4.alloc (.cells #[.slice none 0 0] 43)) wc4.heap.size none 0 0) := TAt.new_ wc4 none 0 0
                      have HLG : Hid (w5.heap.size ≤ wc4.heap.size) := XC4.out.size
                      clear hb
                      go_simp
                      refine hK.out _ _ (HKS.out _ XA5.out) (fun hHeld10 => ?_)
                      clear hK K hHeld6
                      try simp only [Act.put, List.setIfInBounds_toArray, List.set_cons_zero, List.set_cons_succ]
                      generalize hwn : (wc4.alloc (.cells #[.slice none 0 0] 43)) = wa5 at *
                      clear hwn
                      refine wpAnyH_ready (rs := [11]) (by kernel_rfl) (by simp) ?_
                      refine AllReadyH.cons rfl (fun K hK => ?_) AllReadyH.nil
                      have hg : wa5.grownBy (wa5.setCell ⟨wc4.heap.size, 0, none⟩ (.slice B9 l9 c9)) (some (wc4.heap.size)) := setCells_grown wa5 (wc4.heap.size) 0 [.slice B9 l9 c9]
                      have hbs : Below w5.heap.size w5 (wa5.setCell ⟨wc4.heap.size, 0, none⟩ (.slice B9 l9 c9)) := below_set XA5.out HLG.out XA5.out.size
                      have XT := Lib.hid hbs
                      have HT9 : Hid (TrC (wa5.setCell ⟨wc4.heap.size, 0, none⟩ (.slice B9 l9 c9)) B9 l9 c9 kw) := tree_c.set HKU.out HG.out hg
                      have HG9 : Hid (TAt (wa5.setCell ⟨wc4.heap.size, 0, none⟩ (.slice B9 l9 c9)) (wc4.heap.size) B9 l9 c9) := HG.out.set B9 l9 c9
                      have m0 := HG.out.c0
                      have mf0 := HG.out.fz 0
                      clear hg hbs HKU HG
                      go_simp
                      refine hK.out _ _ (HKS.out _ XT.out) (fun hHeld11 => ?_)
                      clear hK K hHeld10 m0 mf0
                      try simp only [Act.put, List.setIfInBounds_toArray, List.set_cons_zero, List.set_cons_succ]
                      generalize hwn : (wa5.setCell ⟨wc4.heap.size, 0, none⟩ (.slice B9 l9 c9)) = wt at *
                      clear hwn
                      refine wpAnyH_take (i := 12) (oi := { dst := some 19, op := _, type := _, pos := _, after := _, guard := _ }) (v := .int .i64 (0 : Int)) rfl (by kernel_rfl) (by kernel_rfl) (by kernel_rfl) (fun _ _ _ h => h) (Or.inl ⟨by rfl, fun w' hSw => ?_⟩) (by assumption) ?_
                      · ((try dsimp only at hSw); go_simp)
                      try simp only [Act.put, List.setIfInBounds_toArray, List.set_cons_zero, List.set_cons_succ]
                      refine wpAnyH_done (by kernel_rfl) ?_ _
                      refine NoPanic.normal ?_
                      go_wp2_with fail
                      go_meet
                      case rel => exact ⟨wc4.heap.size, B9, l9, c9, kw, rfl, rfl, ⟨HT9.out, HG9.out, HKW.out, XT.out⟩⟩
                    · have hb : Below wp3.heap.size wp3 (wp3.alloc (.cells #[.slice none 0 0] 43)) := (Below.refl _ _).alloc (Nat.le_refl _) _
                      have XA7 := Lib.hid (XP3.out.trans (hb.mono XP3.out.size))
                      replace HO := Lib.hid (HO.out.kept hb)
                      have HG : Hid (TAt (wp3.alloc (.cells #[.slice none 0 0] 43)) wp3.heap.size none 0 0) := TAt.new_ wp3 none 0 0
                      have HLG : Hid (w5.heap.size ≤ wp3.heap.size) := XP3.out.size
                      clear hb
                      go_simp
                      refine hK.out _ _ (HKS.out _ XA7.out) (fun hHeld10 => ?_)
                      clear hK K hHeld5
                      try simp only [Act.put, List.setIfInBounds_toArray, List.set_cons_zero, List.set_cons_succ]
                      generalize hwn : (wp3.alloc (.cells #[.slice none 0 0] 43)) = wa7 at *
                      clear hwn
                      refine wpAnyH_ready (rs := [6]) (by kernel_rfl) (by simp) ?_
                      refine AllReadyH.cons rfl (fun K hK => ?_) AllReadyH.nil
                      go_simp
                      go_at_call 17
                      refine (CP.out _ XA7.out AP3 M cp3 (roww_app H7.out H2.out XA7.out HO.out)).mono ?_
                      rintro e wc8 ⟨B9, l9, c9, rfl, ht9, hb⟩
                      obtain ⟨kw, hku, hkr⟩ := tree_back ht9
                      have XC8 := Lib.hid (XA7.out.trans (hb.mono XA7.out.size))
                      have HKU := Lib.hid hku
                      have HKW := Lib.hid hkr
                      replace HG := Lib.hid (HG.out.on hb)
                      clear ht9 hku hkr hb HO
                      refine hK.out _ _ (HKS.out _ XC8.out) (fun hHeld6 => ?_)
                      clear hK K hHeld10
                      try simp only [Act.put, List.setIfInBounds_toArray, List.set_cons_zero, List.set_cons_succ]
                      refine wpAnyH_take (i := 7) (oi := { dst := some 110, op := _, type := _, pos := _, after := _, guard := _ }) (v := .tuple #[.agg #[.slice B9 l9 c9], .int .i64 (0 : Int)]) rfl (by kernel_rfl) (by kernel_rfl) (by kernel_rfl) (fun _ _ _ h => h) (Or.inl ⟨by rfl, fun w' hSw => ?_⟩) (by assumption) ?_
                      · ((try dsimp only at hSw); go_simp)
                      try simp only [Act.put, List.setIfInBounds_toArray, List.set_cons_zero, List.set_cons_succ]
                      refine wpAnyH_take (i := 8) (oi := { dst := some 118, op := _, type := _, pos := _, after := _, guard := _ }) (v := .agg #[.slice B9 l9 c9]) rfl (by kernel_rfl) (by kernel_rfl) (by kernel_rfl) (fun _ _ _ h => h) (Or.inl ⟨by rfl, fun w' hSw => ?_⟩) (by assumption) ?_
                      · ((try dsimp only at hSw); go_simp)
                      try simp only [Act.put, List.setIfInBounds_toArray, List.set_cons_zero, List.set_cons_succ]
                      refine wpAnyH_take (i := 9) (oi := { dst := some 119, op := _, type := _, pos := _, after := _, guard := _ }) (v := .int .i64 (0 : Int)) rfl (by kernel_rfl) (by kernel_rfl) (by kernel_rfl) (fun _ _ _ h => h) (Or.inl ⟨by rfl, fun w' hSw => ?_⟩) (by assumption) ?_
                      · ((try dsimp only at hSw); go_simp)
                      try simp only [Act.put, List.setIfInBounds_toArray, List.set_cons_zero, List.set_cons_succ]
                      refine wpAnyH_ready (rs := [11]) (by kernel_rfl) (by simp) ?_
                      refine AllReadyH.cons rfl (fun K hK => ?_) AllReadyH.nil
                      have hg : wc8.grownBy (wc8.setCell ⟨wp3.heap.size, 0, none⟩ (.slice B9 l9 c9)) (some (wp3.heap.size)) := setCells_grown wc8 (wp3.heap.size) 0 [.slice B9 l9 c9]
                      have hbs : Below w5.heap.size w5 (wc8.setCell ⟨wp3.heap.size, 0, none⟩ (.slice B9 l9 c9)) := below_set XC8.out HLG.out XC8.out.size
                      have XT := Lib.hid hbs
                      have HT9 : Hid (TrC (wc8.setCell ⟨wp3.heap.size, 0, none⟩ (.slice B9 l9 c9)) B9 l9 c9 kw) := tree_c.set HKU.out HG.out hg
                      have HG9 : Hid (TAt (wc8.setCell ⟨wp3.heap.size, 0, none⟩ (.slice B9 l9 c9)) (wp3.heap.size) B9 l9 c9) := HG.out.set B9 l9 c9
                      have m0 := HG.out.c0
                      have mf0 := HG.out.fz 0
                      clear hg hbs HKU HG
                      go_simp
                      refine hK.out _ _ (HKS.out _ XT.out) (fun hHeld11 => ?_)
                      clear hK K hHeld6 m0 mf0
                      try simp only [Act.put, List.setIfInBounds_toArray, List.set_cons_zero, List.set_cons_succ]
                      generalize hwn : (wc8.setCell ⟨wp3.heap.size, 0, none⟩ (.slice B9 l9 c9)) = wt at *
                      clear hwn
                      refine wpAnyH_take (i := 12) (oi := { dst := some 19, op := _, type := _, pos := _, after := _, guard := _ }) (v := .int .i64 (0 : Int)) rfl (by kernel_rfl) (by kernel_rfl) (by kernel_rfl) (fun _ _ _ h => h) (Or.inl ⟨by rfl, fun w' hSw => ?_⟩) (by assumption) ?_
                      · ((try dsimp only at hSw); go_simp)
                      try simp only [Act.put, List.setIfInBounds_toArray, List.set_cons_zero, List.set_cons_succ]
                      refine wpAnyH_done (by kernel_rfl) ?_ _
                      refine NoPanic.normal ?_
                      go_wp2_with fail
                      go_meet
                      case rel => exact ⟨wp3.heap.size, B9, l9, c9, kw, rfl, rfl, ⟨HT9.out, HG9.out, HKW.out, XT.out⟩⟩
                  · have hb : Below wp2.heap.size wp2 (wp2.alloc (.cells #[.slice none 0 0] 43)) := (Below.refl _ _).alloc (Nat.le_refl _) _
                    have XA10 := Lib.hid (XP2.out.trans (hb.mono XP2.out.size))
                    replace HO := Lib.hid (HO.out.kept hb)
                    have HG : Hid (TAt (wp2.alloc (.cells #[.slice none 0 0] 43)) wp2.heap.size none 0 0) := TAt.new_ wp2 none 0 0
                    have HLG : Hid (w5.heap.size ≤ wp2.heap.size) := XP2.out.size
                    clear hb
                    go_simp
                    refine hK.out _ _ (HKS.out _ XA10.out) (fun hHeld10 => ?_)
                    clear hK K hHeld3
                    try simp only [Act.put, List.setIfInBounds_toArray, List.set_cons_zero, List.set_cons_succ]
                    generalize hwn : (wp2.alloc (.cells #[.slice none 0 0] 43)) = wa10 at *
                    clear hwn
                    refine wpAnyH_ready (rs := [5]) (by kernel_rfl) (by simp) ?_
                    refine AllReadyH.cons rfl (fun K hK => ?_) AllReadyH.nil
                    refine step_append_prims 116 rfl rfl _ _ rfl w5.heap.size (.slice AP2 N cp2) l7 rfl HO.out lb A2 lb.length c2 rfl H2.out.len H2.out.room.1 (H2.out.on XA10.out).at_ XA10.out.size HLE2.out M HM.out ?_
                    intro AP11 cp11 wp11 ho hg
                    have hb : Below w5.heap.size w5 wp11 := below_appendp XA10.out HO.out hg (Nat.le_refl _)
                    have XP11 := Lib.hid hb
                    replace HG := Lib.hid (HG.out.grown hg (own_not_tree HO.out HG.out))
                    replace HO : Hid (OwnP wp11 w5.heap.size (.slice AP11 M cp11) (l7 ++ lb)) := ho
                    clear ho hg hb
                    refine hK.out _ _ (HKS.out _ XP11.out) (fun hHeld5 => ?_)
                    clear hK K hHeld10
                    try simp only [Act.put, List.setIfInBounds_toArray, List.set_cons_zero, List.set_cons_succ]
                    refine wpAnyH_ready (rs := [6]) (by kernel_rfl) (by simp) ?_
                    refine AllReadyH.cons rfl (fun K hK => ?_) AllReadyH.nil
                    go_simp
                    go_at_call 17
                    refine (CP.out _ XP11.out AP11 M cp11 (roww_app H7.out H2.out XP11.out HO.out)).mono ?_
                    rintro e wc12 ⟨B9, l9, c9, rfl, ht9, hb⟩
                    obtain ⟨kw, hku, hkr⟩ := tree_back ht9
                    have XC12 := Lib.hid (XP11.out.trans (hb.mono XP11.out.size))
                    have HKU := Lib.hid hku
                    have HKW := Lib.hid hkr
                    replace HG := Lib.hid (HG.out.on hb)
                    clear ht9 hku hkr hb HO
                    refine hK.out _ _ (HKS.out _ XC12.out) (fun hHeld6 => ?_)
                    clear hK K hHeld5
                    try simp only [Act.put, List.setIfInBounds_toArray, List.set_cons_zero, List.set_cons_succ]
                    refine wpAnyH_take (i := 7) (oi := { dst := some 110, op := _, type := _, pos := _, after := _, guard := _ }) (v := .tuple #[.agg #[.slice B9 l9 c9], .int .i64 (0 : Int)]) rfl (by kernel_rfl) (by kernel_rfl) (by kernel_rfl) (fun _ _ _ h => h) (Or.inl ⟨by rfl, fun w' hSw => ?_⟩) (by assumption) ?_
                    · ((try dsimp only at hSw); go_simp)
                    try simp only [Act.put, List.setIfInBounds_toArray, List.set_cons_zero, List.set_cons_succ]
                    refine wpAnyH_take (i := 8) (oi := { dst := some 118, op := _, type := _, pos := _, after := _, guard := _ }) (v := .agg #[.slice B9 l9 c9]) rfl (by kernel_rfl) (by kernel_rfl) (by kernel_rfl) (fun _ _ _ h => h) (Or.inl ⟨by rfl, fun w' hSw => ?_⟩) (by assumption) ?_
                    · ((try dsimp only at hSw); go_simp)
                    try simp only [Act.put, List.setIfInBounds_toArray, List.set_cons_zero, List.set_cons_succ]
                    refine wpAnyH_take (i := 9) (oi := { dst := some 119, op := _, type := _, pos := _, after := _, guard := _ }) (v := .int .i64 (0 : Int)) rfl (by kernel_rfl) (by kernel_rfl) (by kernel_rfl) (fun _ _ _ h => h) (Or.inl ⟨by rfl, fun w' hSw => ?_⟩) (by assumption) ?_
                    · ((try dsimp only at hSw); go_simp)
                    try simp only [Act.put, List.setIfInBounds_toArray, List.set_cons_zero, List.set_cons_succ]
                    refine wpAnyH_ready (rs := [11]) (by kernel_rfl) (by simp) ?_
                    refine AllReadyH.cons rfl (fun K hK => ?_) AllReadyH.nil
                    have hg : wc12.grownBy (wc12.setCell ⟨wp2.heap.size, 0, none⟩ (.slice B9 l9 c9)) (some (wp2.heap.size)) := setCells_grown wc12 (wp2.heap.size) 0 [.slice B9 l9 c9]
                    have hbs : Below w5.heap.size w5 (wc12.setCell ⟨wp2.heap.size, 0, none⟩ (.slice B9 l9 c9)) := below_set XC12.out HLG.out XC12.out.size
                    have XT := Lib.hid hbs
                    have HT9 : Hid (TrC (wc12.setCell ⟨wp2.heap.size, 0, none⟩ (.slice B9 l9 c9)) B9 l9 c9 kw) := tree_c.set HKU.out HG.out hg
                    have HG9 : Hid (TAt (wc12.setCell ⟨wp2.heap.size, 0, none⟩ (.slice B9 l9 c9)) (wp2.heap.size) B9 l9 c9) := HG.out.set B9 l9 c9
                    have m0 := HG.out.c0
                    have mf0 := HG.out.fz 0
                    clear hg hbs HKU HG
                    go_simp
                    refine hK.out _ _ (HKS.out _ XT.out) (fun hHeld11 => ?_)
                    clear hK K hHeld6 m0 mf0
                    try simp only [Act.put, List.setIfInBounds_toArray, List.set_cons_zero, List.set_cons_succ]
                    generalize hwn : (wc12.setCell ⟨wp2.heap.size, 0, none⟩ (.slice B9 l9 c9)) = wt at *
                    clear hwn
                    refine wpAnyH_take (i := 12) (oi := { dst := some 19, op := _, type := _, pos := _, after := _, guard := _ }) (v := .int .i64 (0 : Int)) rfl (by kernel_rfl) (by kernel_rfl) (by kernel_rfl) (fun _ _ _ h => h) (Or.inl ⟨by rfl, fun w' hSw => ?_⟩) (by assumption) ?_
                    · ((try dsimp only at hSw); go_simp)
                    try simp only [Act.put, List.setIfInBounds_toArray, List.set_cons_zero, List.set_cons_succ]
                    refine wpAnyH_done (by kernel_rfl) ?_ _
                    refine NoPanic.normal ?_
                    go_wp2_with fail
                    go_meet
                    case rel => exact ⟨wp2.heap.size, B9, l9, c9, kw, rfl, rfl, ⟨HT9.out, HG9.out, HKW.out, XT.out⟩⟩
                · have hb : Below we1.heap.size we1 (we1.alloc (.cells #[.slice none 0 0] 43)) := (Below.refl _ _).alloc (Nat.le_refl _) _
                  have XA14 := Lib.hid (XE1.out.trans (hb.mono XE1.out.size))
                  replace HO := Lib.hid (HO.out.kept hb)
                  have HG : Hid (TAt (we1.alloc (.cells #[.slice none 0 0] 43)) we1.heap.size none 0 0) := TAt.new_ we1 none 0 0
                  have HLG : Hid (w5.heap.size ≤ we1.heap.size) := XE1.out.size
                  clear hb
                  go_simp
                  refine hK.out _ _ (HKS.out _ XA14.out) (fun hHeld10 => ?_)
                  clear hK K hHeld1
                  try simp only [Act.put, List.setIfInBounds_toArray, List.set_cons_zero, List.set_cons_succ]
                  generalize hwn : (we1.alloc (.cells #[.slice none 0 0] 43)) = wa14 at *
                  clear hwn
                  refine wpAnyH_ready (rs := [3]) (by kernel_rfl) (by simp) ?_
                  refine AllReadyH.cons rfl (fun K hK => ?_) AllReadyH.nil
                  refine step_append_prims 114 rfl rfl _ _ rfl w5.heap.size (.slice (some ⟨wD.heap.size, 0, none⟩) 0 0) [] rfl HO.out l7 A7 n7 d7 rfl H7.out.len H7.out.room.1 (H7.out.on XA14.out).at_ XA14.out.size HLE1.out N HN.out ?_
                  intro AP15 cp15 wp15 ho hg
                  have hb : Below w5.heap.size w5 wp15 := below_appendp XA14.out HO.out hg (Nat.le_refl _)
                  have XP15 := Lib.hid hb
                  replace HG := Lib.hid (HG.out.grown hg (own_not_tree HO.out HG.out))
                  replace HO : Hid (OwnP wp15 w5.heap.size (.slice AP15 N cp15) l7) := ho
                  clear ho hg hb
                  refine hK.out _ _ (HKS.out _ XP15.out) (fun hHeld3 => ?_)
                  clear hK K hHeld10
                  try simp only [Act.put, List.setIfInBounds_toArray, List.set_cons_zero, List.set_cons_succ]
                  refine wpAnyH_ready (rs := [5]) (by kernel_rfl) (by simp) ?_
                  refine AllReadyH.cons rfl (fun K hK => ?_) AllReadyH.nil
                  refine step_append_prims 116 rfl rfl _ _ rfl w5.heap.size (.slice AP15 N cp15) l7 rfl HO.out lb A2 lb.length c2 rfl H2.out.len H2.out.room.1 (H2.out.on XP15.out).at_ XP15.out.size HLE2.out M HM.out ?_
                  intro AP16 cp16 wp16 ho hg
                  have hb : Below w5.heap.size w5 wp16 := below_appendp XP15.out HO.out hg (Nat.le_refl _)
                  have XP16 := Lib.hid hb
                  replace HG := Lib.hid (HG.out.grown hg (own_not_tree HO.out HG.out))
                  replace HO : Hid (OwnP wp16 w5.heap.size (.slice AP16 M cp16) (l7 ++ lb)) := ho
                  clear ho hg hb
                  refine hK.out _ _ (HKS.out _ XP16.out) (fun hHeld5 => ?_)
                  clear hK K hHeld3
                  try simp only [Act.put, List.setIfInBounds_toArray, List.set_cons_zero, List.set_cons_succ]
                  refine wpAnyH_ready (rs := [6]) (by kernel_rfl) (by simp) ?_
                  refine AllReadyH.cons rfl (fun K hK => ?_) AllReadyH.nil
                  go_simp
                  go_at_call 17
                  refine (CP.out _ XP16.out AP16 M cp16 (roww_app H7.out H2.out XP16.out HO.out)).mono ?_
                  rintro e wc17 ⟨B9, l9, c9, rfl, ht9, hb⟩
                  obtain ⟨kw, hku, hkr⟩ := tree_back ht9
                  have XC17 := Lib.hid (XP16.out.trans (hb.mono XP16.out.size))
                  have HKU := Lib.hid hku
                  have HKW := Lib.hid hkr
                  replace HG := Lib.hid (HG.out.on hb)
                  clear ht9 hku hkr hb HO
                  refine hK.out _ _ (HKS.out _ XC17.out) (fun hHeld6 => ?_)
                  clear hK K hHeld5
                  try simp only [Act.put, List.setIfInBounds_toArray, List.set_cons_zero, List.set_cons_succ]
                  refine wpAnyH_take (i := 7) (oi := { dst := some 110, op := _, type := _, pos := _, after := _, guard := _ }) (v := .tuple #[.agg #[.slice B9 l9 c9], .int .i64 (0 : Int)]) rfl (by kernel_rfl) (by kernel_rfl) (by kernel_rfl) (fun _ _ _ h => h) (Or.inl ⟨by rfl, fun w' hSw => ?_⟩) (by assumption) ?_
                  · ((try dsimp only at hSw); go_simp)
                  try simp only [Act.put, List.setIfInBounds_toArray, List.set_cons_zero, List.set_cons_succ]
                  refine wpAnyH_take (i := 8) (oi := { dst := some 118, op := _, type := _, pos := _, after := _, guard := _ }) (v := .agg #[.slice B9 l9 c9]) rfl (by kernel_rfl) (by kernel_rfl) (by kernel_rfl) (fun _ _ _ h => h) (Or.inl ⟨by rfl, fun w' hSw => ?_⟩) (by assumption) ?_
                  · ((try dsimp only at hSw); go_simp)
                  try simp only [Act.put, List.setIfInBounds_toArray, List.set_cons_zero, List.set_cons_succ]
                  refine wpAnyH_take (i := 9) (oi := { dst := some 119, op := _, type := _, pos := _, after := _, guard := _ }) (v := .int .i64 (0 : Int)) rfl (by kernel_rfl) (by kernel_rfl) (by kernel_rfl) (fun _ _ _ h => h) (Or.inl ⟨by rfl, fun w' hSw => ?_⟩) (by assumption) ?_
                  · ((try dsimp only at hSw); go_simp)
                  try simp only [Act.put, List.setIfInBounds_toArray, List.set_cons_zero, List.set_cons_succ]
                  refine wpAnyH_ready (rs := [11]) (by kernel_rfl) (by simp) ?_
                  refine AllReadyH.cons rfl (fun K hK => ?_) AllReadyH.nil
                  have hg : wc17.grownBy (wc17.setCell ⟨we1.heap.size, 0, none⟩ (.slice B9 l9 c9)) (some (we1.heap.size)) := setCells_grown wc17 (we1.heap.size) 0 [.slice B9 l9 c9]
                  have hbs : Below w5.heap.size w5 (wc17.setCell ⟨we1.heap.size, 0, none⟩ (.slice B9 l9 c9)) := below_set XC17.out HLG.out XC17.out.size
                  have XT := Lib.hid hbs
                  have HT9 : Hid (TrC (wc17.setCell ⟨we1.heap.size, 0, none⟩ (.slice B9 l9 c9)) B9 l9 c9 kw) := tree_c.set HKU.out HG.out hg
                  have HG9 : Hid (TAt (wc17.setCell ⟨we1.heap.size, 0, none⟩ (.slice B9 l9 c9)) (we1.heap.size) B9 l9 c9) := HG.out.set B9 l9 c9
                  have m0 := HG.out.c0
                  have mf0 := HG.out.fz 0
                  clear hg hbs HKU HG
                  go_simp
                  refine hK.out _ _ (HKS.out _ XT.out) (fun hHeld11 => ?_)
                  clear hK K hHeld6 m0 mf0
                  try simp only [Act.put, List.setIfInBounds_toArray, List.set_cons_zero, List.set_cons_succ]
                  generalize hwn : (wc17.setCell ⟨we1.heap.size, 0, none⟩ (.slice B9 l9 c9)) = wt at *
                  clear hwn
                  refine wpAnyH_take (i := 12) (oi := { dst := some 19, op := _, type := _, pos := _, after := _, guard := _ }) (v := .int .i64 (0 : Int)) rfl (by kernel_rfl) (by kernel_rfl) (by kernel_rfl) (fun _ _ _ h => h) (Or.inl ⟨by rfl, fun w' hSw => ?_⟩) (by assumption) ?_
                  · ((try dsimp only at hSw); go_simp)
                  try simp only [Act.put, List.setIfInBounds_toArray, List.set_cons_zero, List.set_cons_succ]
                  refine wpAnyH_done (by kernel_rfl) ?_ _
                  refine NoPanic.normal ?_
                  go_wp2_with fail
                  go_meet
                  case rel => exact ⟨we1.heap.size, B9, l9, c9, kw, rfl, rfl, ⟨HT9.out, HG9.out, HKW.out, XT.out⟩⟩
              · have hb : Below wD.heap.size wD (wD.alloc (.cells #[.slice none 0 0] 43)) := (Below.refl _ _).alloc (Nat.le_refl _) _
                have XA19 := Lib.hid (XB0.out.trans (hb.mono XB0.out.size))
                have HG : Hid (TAt (wD.alloc (.cells #[.slice none 0 0] 43)) wD.heap.size none 0 0) := TAt.new_ wD none 0 0
                have HLG : Hid (w5.heap.size ≤ wD.heap.size) := XB0.out.size
                clear hb
                go_simp
                refine hK.out _ _ (HKS.out _ XA19.out) (fun hHeld10 => ?_)
                clear hK K hHeld
                try simp only [Act.put, List.setIfInBounds_toArray, List.set_cons_zero, List.set_cons_succ]
                generalize hwn : (wD.alloc (.cells #[.slice none 0 0] 43)) = wa19 at *
                clear hwn
                refine wpAnyH_ready (rs := [1]) (by kernel_rfl) (by simp) ?_
                refine AllReadyH.cons rfl (fun K hK => ?_) AllReadyH.nil
                have hb : Below wa19.heap.size wa19 (wa19.alloc (.cells #[] 33)) := (Below.refl _ _).alloc (Nat.le_refl _) _
                have XE20 := Lib.hid (XA19.out.trans (hb.mono XA19.out.size))
                have HO := Lib.hid (own_madep wa19 w5.heap.size XA19.out.size)
                replace HG := Lib.hid (HG.out.on hb)
                clear hb
                go_simp
                refine hK.out _ _ (HKS.out _ XE20.out) (fun hHeld1 => ?_)
                clear hK K hHeld10
                try simp only [Act.put, List.setIfInBounds_toArray, List.set_cons_zero, List.set_cons_succ]
                generalize hwn : (wa19.alloc (.cells #[] 33)) = we20 at *
                clear hwn
                refine wpAnyH_ready (rs := [3]) (by kernel_rfl) (by simp) ?_
                refine AllReadyH.cons rfl (fun K hK => ?_) AllReadyH.nil
                refine step_append_prims 114 rfl rfl _ _ rfl w5.heap.size (.slice (some ⟨wa19.heap.size, 0, none⟩) 0 0) [] rfl HO.out l7 A7 n7 d7 rfl H7.out.len H7.out.room.1 (H7.out.on XE20.out).at_ XE20.out.size HLE1.out N HN.out ?_
                intro AP21 cp21 wp21 ho hg
                have hb : Below w5.heap.size w5 wp21 := below_appendp XE20.out HO.out hg (Nat.le_refl _)
                have XP21 := Lib.hid hb
                replace HG := Lib.hid (HG.out.grown hg (own_not_tree HO.out HG.out))
                replace HO : Hid (OwnP wp21 w5.heap.size (.slice AP21 N cp21) l7) := ho
                clear ho hg hb
                refine hK.out _ _ (HKS.out _ XP21.out) (fun hHeld3 => ?_)
                clear hK K hHeld1
                try simp only [Act.put, List.setIfInBounds_toArray, List.set_cons_zero, List.set_cons_succ]
                refine wpAnyH_ready (rs := [5]) (by kernel_rfl) (by simp) ?_
                refine AllReadyH.cons rfl (fun K hK => ?_) AllReadyH.nil
                refine step_append_prims 116 rfl rfl _ _ rfl w5.heap.size (.slice AP21 N cp21) l7 rfl HO.out lb A2 lb.length c2 rfl H2.out.len H2.out.room.1 (H2.out.on XP21.out).at_ XP21.out.size HLE2.out M HM.out ?_
                intro AP22 cp22 wp22 ho hg
                have hb : Below w5.heap.size w5 wp22 := below_appendp XP21.out HO.out hg (Nat.le_refl _)
                have XP22 := Lib.hid hb
                replace HG := Lib.hid (HG.out.grown hg (own_not_tree HO.out HG.out))
                replace HO : Hid (OwnP wp22 w5.heap.size (.slice AP22 M cp22) (l7 ++ lb)) := ho
                clear ho hg hb
                refine hK.out _ _ (HKS.out _ XP22.out) (fun hHeld5 => ?_)
                clear hK K hHeld3
                try simp only [Act.put, List.setIfInBounds_toArray, List.set_cons_zero, List.set_cons_succ]
                refine wpAnyH_ready (rs := [6]) (by kernel_rfl) (by simp) ?_
                refine AllReadyH.cons rfl (fun K hK => ?_) AllReadyH.nil
                go_simp
                go_at_call 17
                refine (CP.out _ XP22.out AP22 M cp22 (roww_app H7.out H2.out XP22.out HO.out)).mono ?_
                rintro e wc23 ⟨B9, l9, c9, rfl, ht9, hb⟩
                obtain ⟨kw, hku, hkr⟩ := tree_back ht9
                have XC23 := Lib.hid (XP22.out.trans (hb.mono XP22.out.size))
                have HKU := Lib.hid hku
                have HKW := Lib.hid hkr
                replace HG := Lib.hid (HG.out.on hb)
                clear ht9 hku hkr hb HO
                refine hK.out _ _ (HKS.out _ XC23.out) (fun hHeld6 => ?_)
                clear hK K hHeld5
                try simp only [Act.put, List.setIfInBounds_toArray, List.set_cons_zero, List.set_cons_succ]
                refine wpAnyH_take (i := 7) (oi := { dst := some 110, op := _, type := _, pos := _, after := _, guard := _ }) (v := .tuple #[.agg #[.slice B9 l9 c9], .int .i64 (0 : Int)]) rfl (by kernel_rfl) (by kernel_rfl) (by kernel_rfl) (fun _ _ _ h => h) (Or.inl ⟨by rfl, fun w' hSw => ?_⟩) (by assumption) ?_
                · ((try dsimp only at hSw); go_simp)
                try simp only [Act.put, List.setIfInBounds_toArray, List.set_cons_zero, List.set_cons_succ]
                refine wpAnyH_take (i := 8) (oi := { dst := some 118, op := _, type := _, pos := _, after := _, guard := _ }) (v := .agg #[.slice B9 l9 c9]) rfl (by kernel_rfl) (by kernel_rfl) (by kernel_rfl) (fun _ _ _ h => h) (Or.inl ⟨by rfl, fun w' hSw => ?_⟩) (by assumption) ?_
                · ((try dsimp only at hSw); go_simp)
                try simp only [Act.put, List.setIfInBounds_toArray, List.set_cons_zero, List.set_cons_succ]
                refine wpAnyH_take (i := 9) (oi := { dst := some 119, op := _, type := _, pos := _, after := _, guard := _ }) (v := .int .i64 (0 : Int)) rfl (by kernel_rfl) (by kernel_rfl) (by kernel_rfl) (fun _ _ _ h => h) (Or.inl ⟨by rfl, fun w' hSw => ?_⟩) (by assumption) ?_
                · ((try dsimp only at hSw); go_simp)
                try simp only [Act.put, List.setIfInBounds_toArray, List.set_cons_zero, List.set_cons_succ]
                refine wpAnyH_ready (rs := [11]) (by kernel_rfl) (by simp) ?_
                refine AllReadyH.cons rfl (fun K hK => ?_) AllReadyH.nil
                have hg : wc23.grownBy (wc23.setCell ⟨wD.heap.size, 0, none⟩ (.slice B9 l9 c9)) (some (wD.heap.size)) := setCells_grown wc23 (wD.heap.size) 0 [.slice B9 l9 c9]
                have hbs : Below w5.heap.size w5 (wc23.setCell ⟨wD.heap.size, 0, none⟩ (.slice B9 l9 c9)) := below_set XC23.out HLG.out XC23.out.size
                have XT := Lib.hid hbs
                have HT9 : Hid (TrC (wc23.setCell ⟨wD.heap.size, 0, none⟩ (.slice B9 l9 c9)) B9 l9 c9 kw) := tree_c.set HKU.out HG.out hg
                have HG9 : Hid (TAt (wc23.setCell ⟨wD.heap.size, 0, none⟩ (.slice B9 l9 c9)) (wD.heap.size) B9 l9 c9) := HG.out.set B9 l9 c9
                have m0 := HG.out.c0
                have mf0 := HG.out.fz 0
                clear hg hbs HKU HG
                go_simp
                refine hK.out _ _ (HKS.out _ XT.out) (fun hHeld11 => ?_)
                clear hK K hHeld6 m0 mf0
                try simp only [Act.put, List.setIfInBounds_toArray, List.set_cons_zero, List.set_cons_succ]
                generalize hwn : (wc23.setCell ⟨wD.heap.size, 0, none⟩ (.slice B9 l9 c9)) = wt at *
                clear hwn
                refine wpAnyH_take (i := 12) (oi := { dst := some 19, op := _, type := _, pos := _, after := _, guard := _ }) (v := .int .i64 (0 : Int)) rfl (by kernel_rfl) (by kernel_rfl) (by kernel_rfl) (fun _ _ _ h => h) (Or.inl ⟨by rfl, fun w' hSw => ?_⟩) (by assumption) ?_
                · ((try dsimp only at hSw); go_simp)
                try simp only [Act.put, List.setIfInBounds_toArray, List.set_cons_zero, List.set_cons_succ]
                refine wpAnyH_done (by kernel_rfl) ?_ _
                refine NoPanic.normal ?_
                go_wp2_with fail
                go_meet
                case rel => exact ⟨wD.heap.size, B9, l9, c9, kw, rfl, rfl, ⟨HT9.out, HG9.out, HKW.out, XT.out⟩⟩
            case rest =>
              obtain ⟨g6, B6, l6, c6, kv, rfl, rfl, HQ⟩ := hcut
              have hbq := HQ.out.2.2.2
              have hg6 : HeldT wc g6 B6 l6 c6 kv := ⟨HQ.out.1, HQ.out.2.1⟩
              have KR := Lib.hid HQ.out.2.2.1
              clear HKS CP HDR HN HM HLE1 HLE2
              replace H1 := Lib.hid (H1.out.on hbq)
              replace H2 := Lib.hid (H2.out.on hbq)
              replace Ht1 := Lib.hid (Ht1.out.on hbq)
              replace Hg2 := Lib.hid (Hg2.out.on hbq)
              replace H7 := Lib.hid (H7.out.on hbq)
              replace HA := Lib.hid (HA.out.trans (hbq.mono HA.out.size))
              replace HT := Lib.hid (Tabs.on HT.out hbq)
              have Hg6 := Lib.hid hg6
              clear HQ hbq hg6
              generalize wc = wg6 at *
              have hkv := KR.out rfl
              subst hkv
              clear KR
              go_wp2_with fail
              refine (sawake_any _ HT.out).mono ?_
              rintro e w8 ⟨rfl, hb⟩
              replace Hg2 := Lib.hid (Hg2.out.on hb)
              replace Hg6 := Lib.hid (Hg6.out.on hb)
              replace HA := Lib.hid (HA.out.trans (hb.mono HA.out.size))
              replace HT := Lib.hid (Tabs.on HT.out hb)
              clear hb
              have t2 := Hg2.out.2.c0
              have t6 := Hg6.out.2.c0
              have cs := tree_c.same B2 l2 c4 kv B6 l6 c6 kv w8 Hg2.out.1 Hg6.out.1 HKL.out HKL.out
              rw [show decide (kv = kv) = true from decide_eq_true rfl] at cs
              have CS := Lib.hid cs
              clear cs
              go_wp2_with fail
              refine CS.out.mono ?_
              rintro e w9 ⟨rfl, hb⟩
              have HB := Lib.hid (HA.out.trans (hb.mono HA.out.size))
              clear hb t2 t6 CS
              go_wp2
              go_ret
              exact ⟨rfl, HB.out⟩
          · have en : (er7 != 0) = true := by simpa using h7
            clear h7 E7 H7
            go_wp2_with fail
            refine (sawake_any _ HT.out).mono ?_
            rintro e wz ⟨rfl, hb⟩
            have HB := Lib.hid (HA.out.trans (hb.mono HA.out.size))
            clear hb
            go_wp2
            go_ret
            exact ⟨rfl, HB.out⟩
      · have en : (er1 != 0) = true := by simpa using h1
        clear h1 HAP KR
        go_wp2_with fail
        refine (sawake_any _ HT.out).mono ?_
        rintro e wz ⟨rfl, hb⟩
        have HB := Lib.hid (HA.out.trans (hb.mono HA.out.size))
        clear hb
        go_wp2
        go_ret
        exact ⟨rfl, HB.out⟩
    · have en : (er0 != 0) = true := by simpa using h0
      clear h0 HAP KR
      go_wp2_with fail
      refine (sawake_any _ HT.out).mono ?_
      rintro e wz ⟨rfl, hb⟩
      have HB := Lib.hid (HA.out.trans (hb.mono HA.out.size))
      clear hb
      go_wp2
      go_ret
      exact ⟨rfl, HB.out⟩
end Go.Proofs.YtalabahjfmcnbaaGreatDoor
