/- PrimAll. -/
import Derived.Test.YtaepfahpbnpeiaaGreatDoorCk35
import Derived.Test.YtaepfahpbnpeiaaGreatDoorCk41
import Derived.Test.YtaepfahpbnpeiaaGreatDoorCk39
import Derived.Test.YtaepfahpbnpeiaaGreatDoorCk40
namespace Go.Proofs.YtaepfahpbnpeiaaGreatDoor
open Go.RowKit
set_option linter.unusedVariables false

/-- What is held at each round: both trees, and the steps. -/
structure AllS (w wr : World) (G5 G7 : Nat) (A1 : Option Addr) (ps : List Pm) (B1 : Option Addr) (n1 c1 : Nat) (ks : List PF) (B2 : Option Addr) (n2 c2 : Nat) (ku : List PF) : Prop where
  t : TrC wr B1 n1 c1 ks
  ta : TAt wr G5 B1 n1 c1
  u : TrC wr B2 n2 c2 ku
  ua : TAt wr G7 B2 n2 c2
  ps : Ps wr wr.heap.size A1 ps
  tabs : Tabs wr
  below : Below w.heap.size w wr
theorem AllS.on {w wr w' : World} {G5 G7 : Nat} {A1 : Option Addr} {ps : List Pm} {B1 : Option Addr} {n1 c1 : Nat} {ks : List PF} {B2 : Option Addr} {n2 c2 : Nat} {ku : List PF} (h : AllS w wr G5 G7 A1 ps B1 n1 c1 ks B2 n2 c2 ku) (hb : Below wr.heap.size wr w') : AllS w w' G5 G7 A1 ps B1 n1 c1 ks B2 n2 c2 ku :=
  ⟨tree_c.on h.t hb, h.ta.on hb, tree_c.on h.u hb, h.ua.on hb, h.ps.on hb, Tabs.on h.tabs hb, h.below.trans (hb.mono h.below.size)⟩
theorem apAll_len : ∀ {l : List Pk} {ks res : List PF} {er : Int}, apAll ks l = (er, res) → res.length ≤ ks.length + l.length
  | [], ks, res, er, h => by
    obtain ⟨_, rfl⟩ := Prod.mk.inj h
    simp
  | p :: l, ks, res, er, h => by
    have h1 := ap_len ks p
    unfold apAll at h
    split at h
    · have h2 := apAll_len h
      simp only [List.length_cons]
      omega
    · obtain ⟨_, rfl⟩ := Prod.mk.inj h
      simp
/-- What holds of the files so far, and of the error. -/
def LoopW (ps : List Pm) (ks : List PF) (er : Int) (res : List PF) (gs : List Fm) (k : Nat) (wn : Int) : Prop := (wn = 0 → Well (fkeys gs) ∧ gs.length ≤ ks.length + k ∧ apAll (fkeys gs) ((pkeys ps).drop k) = (er, res)) ∧ (wn ≠ 0 → wn = er)
theorem backP_len (l : List Pk) : (backP l).length = l.length := by simp [backP]
theorem backP_ck {l : List Pk} {ks res : List PF} (h : apAll ks l = (0, res)) : ∀ p ∈ backP l, ckP p = 0 := by
  intro p hp
  unfold backP at hp
  rw [List.mem_reverse, List.mem_map] at hp
  obtain ⟨q, hq, rfl⟩ := hp
  have hc := apAll_ck h q hq
  exact ck_inv hc (ck_facts hc).2.2.1
theorem mem_keys {ps : List Pm} {x : Pm} (h : x ∈ ps) : x.key ∈ pkeys ps := List.mem_map.2 ⟨x, h, rfl⟩
theorem short_of {fs : List Fm} {ks : List PF} (h : fkeys fs = ks) (hw : Well ks) (hl : ks.length ≤ 1000) : Short fs := by
  subst h
  refine ⟨by rw [fkeys_len] at hl; omega, fun f hf => ?_⟩
  have := (check_wide (hw.lines f.key (List.mem_map.2 ⟨f, hf, rfl⟩))).2
  exact Nat.le_trans this (by decide)
theorem light6_file {f : Fm} (h : light6One f = true) : f.p.size ≤ 300 ∧ LightK f.ls := by
  unfold light6One at h
  simp only [Bool.and_eq_true, decide_eq_true_eq] at h
  exact ⟨h.1, light3_facts h.2⟩
theorem perm_len {ks : List PF} {fs : List Fm} (h : ks.Perm (fkeys fs)) : ks.length = fs.length := by rw [h.length_eq, fkeys_len]
set_option maxHeartbeats 20000000 in
set_option maxRecDepth 100000 in
theorem primall_any (A0 : Option Addr) (fs : List Fm) (cap0 : Nat) (A1 : Option Addr) (ps : List Pm) (cap1 : Nat) (w : World) (hf : Fs w w.heap.size A0 fs) (hfn : fs.length ≤ 9223372036854775807) (hfm : ∀ f ∈ fs, f.p.size ≤ 9223372036854775807 ∧ f.ls.length ≤ 9223372036854775807) (hp : Ps w w.heap.size A1 ps) (hpn : ps.length ≤ 9223372036854775807) (hT : Tabs w) :
    Calls Tryz.prog 3 #[.slice A0 fs.length cap0, .slice A1 ps.length cap1] w fun e w' => e = .returned (.bool true) ∧ Below w.heap.size w w' := by
  have CA := Lib.hid (fun W (hb : Below w.heap.size w W) => pawake_any W (Tabs.on hT hb))
  have C6 := light6_any A0 fs cap0 w hf hfn (fun f h => (hfm f h).2)
  have C7 := light7_any A1 ps cap1 w hp hpn
  cases h6 : light6B fs
  · rw [h6] at C6
    have C6 := Lib.hid C6
    clear C7 hf hfm hp hT
    go_enter Tryz.func3, Tryz.ntmps3
    go_wp2_with fail
    refine C6.out.mono ?_
    rintro e wl ⟨rfl, rfl⟩
    go_wp2_with fail
    refine (CA.out _ (Below.refl _ _)).mono ?_
    rintro e wk ⟨rfl, hb⟩
    have HB := Lib.hid ((Below.refl w.heap.size w).trans (hb.mono (Below.refl w.heap.size w).size))
    clear hb
    go_wp2
    go_ret
    exact ⟨rfl, HB.out⟩
  · rw [h6] at C6
    cases h7 : light7B ps
    · rw [h7] at C7
      have C6 := Lib.hid C6
      have C7 := Lib.hid C7
      clear hf hfm hp hT
      go_enter Tryz.func3, Tryz.ntmps3
      go_wp2_with fail
      refine C6.out.mono ?_
      rintro e wl ⟨rfl, rfl⟩
      go_wp2_with fail
      refine C7.out.mono ?_
      rintro e wl ⟨rfl, rfl⟩
      go_wp2_with fail
      refine (CA.out _ (Below.refl _ _)).mono ?_
      rintro e wk ⟨rfl, hb⟩
      have HB := Lib.hid ((Below.refl w.heap.size w).trans (hb.mono (Below.refl w.heap.size w).size))
      clear hb
      go_wp2
      go_ret
      exact ⟨rfl, HB.out⟩
    · rw [h7] at C7
      obtain ⟨hfl, hfo⟩ := light6_facts h6
      obtain ⟨hpl, hpo⟩ := light7_facts h7
      have HPL : Hid (∀ x ∈ ps, x.Light) := fun x hx => light7_light (hpo x hx)
      have CO := Lib.hid (of_any A0 fs cap0 w hf (by omega) (fun f h => Nat.le_trans (light6_file (hfo f h)).1 (by decide)) (fun f h => (light6_file (hfo f h)).2.wide) hT)
      have C6 := Lib.hid C6
      have C7 := Lib.hid C7
      have HPS := Lib.hid hp
      have HTB := Lib.hid hT
      clear hf hfm hp hT hfo hpo h6 h7
      go_enter Tryz.func3, Tryz.ntmps3
      go_wp2_with fail
      refine C6.out.mono ?_
      rintro e wl ⟨rfl, rfl⟩
      go_wp2_with fail
      refine C7.out.mono ?_
      rintro e wl ⟨rfl, rfl⟩
      go_wp2_with fail
      refine CO.out.mono ?_
      rintro e w1 ⟨er0, ks, hperm, hweak, hofe, B1, n1, c1, rfl, ht, hb⟩
      have hkl := perm_len hperm
      have hal : Below w1.heap.size w1 (w1.alloc (.cells #[.slice B1 n1 c1] 28)) := (Below.refl _ _).alloc (Nat.le_refl _) _
      have HB1 := Lib.hid (hb.trans (hal.mono hb.size))
      have HA1 := Lib.hid (TAt.new_ w1 B1 n1 c1)
      clear C6 C7 CO
      by_cases he0 : er0 = 0
      · subst he0
        have hwell : Well ks := well_of hweak (by
          rcases hofe with ⟨_, h⟩ | ⟨h, _⟩
          · exact h
          · exact absurd rfl h)
        obtain ⟨er, res, hap⟩ : ∃ er res, apAll ks (pkeys ps) = (er, res) := ⟨_, _, rfl⟩
        have HT1 := Lib.hid (tree_c.on (ht.out.1 rfl) hal)
        have CL := Lib.hid (pall_any tree_c B1 n1 c1 ks A1 ps cap1 er res _ HT1.out (by omega) hwell (HPS.out.on HB1.out) HPL.out (Tabs.on HTB.out HB1.out) hap)
        have HAP := Lib.hid hap
        have HWE := Lib.hid hwell
        have t0 := HA1.out.c0
        clear hperm hweak hofe ht hb hal hwell hap
        go_wp2_with fail
        generalize hwt : (w1.alloc (.cells #[.slice B1 n1 c1] 28)) = wt at *
        clear hwt
        refine CL.out.mono ?_
        rintro e w2 ⟨B2, n2, c2, rfl, ht2, hb2⟩
        have hal2 : Below w2.heap.size w2 (w2.alloc (.cells #[.slice B2 n2 c2] 28)) := (Below.refl _ _).alloc (Nat.le_refl _) _
        have hb3 := hb2.trans (hal2.mono hb2.size)
        obtain ⟨ku, hku1, hku2, hku3⟩ : ∃ ku, TrC w2 B2 n2 c2 ku ∧ (er = 0 → ku = res) ∧ (er ≠ 0 → ku = []) := by
          by_cases h : er = 0
          · exact ⟨res, ht2.out.1 h, fun _ => rfl, fun g => absurd h g⟩
          · exact ⟨[], ht2.out.2 h, fun g => absurd g h, fun _ => rfl⟩
        have HKU : Hid ((er = 0 → ku = res) ∧ (er ≠ 0 → ku = [])) := ⟨hku2, hku3⟩
        generalize hG5 : w1.heap.size = G5 at *
        have HS : Hid (AllS w (w2.alloc (.cells #[.slice B2 n2 c2] 28)) G5 w2.heap.size A1 ps B1 n1 c1 ks B2 n2 c2 ku) := ⟨tree_c.on HT1.out hb3, HA1.out.on hb3, tree_c.on hku1 hal2, TAt.new_ w2 B2 n2 c2, (HPS.out.on HB1.out).on hb3, Tabs.on (Tabs.on HTB.out HB1.out) hb3, HB1.out.trans (hb3.mono HB1.out.size)⟩
        clear ht2 hb2 hal2 hb3 hku1 hku2 hku3 CL HT1 HA1 HPS HTB t0 hG5
        have t0 := HS.out.ta.c0
        generalize hG7 : w2.heap.size = G7 at *
        go_wp2_with fail
        generalize hwu : (w2.alloc (.cells #[.slice B2 n2 c2] 28)) = wu at *
        clear hwu hG7
        refine (tree_c.all B1 n1 c1 ks wu HS.out.t (by omega)).mono ?_
        rintro e w3 ⟨X, gs, xc, rfl, hx, hb3⟩
        have HS3 := Lib.hid (HS.out.on hb3)
        have HX3 : Hid (Fs w3 w3.heap.size X gs ∧ Room X gs.length xc) := ⟨hx.out.1, hx.out.2.1⟩
        have HW3 : Hid (LoopW ps ks er res gs 0 0) := by
          refine ⟨fun _ => ?_, fun h => absurd rfl h⟩
          have h := hx.out.2.2
          rw [List.drop_zero, h]
          exact ⟨HWE.out, by rw [← fkeys_len, h]; exact Nat.le_refl _, HAP.out⟩
        clear hx hb3 HS t0
        go_wp2_with fail
        go_loopw [9, 10, 11] (fun xv wv iv wr => ∃ (k : Nat) (X : Option Addr) (gs : List Fm) (xc : Nat) (wn : Int), k ≤ ps.length ∧ xv = .slice X gs.length xc ∧ wv = .int .i64 wn ∧ iv = .int .i64 (k : Int) ∧ Hid (AllS w wr G5 G7 A1 ps B1 n1 c1 ks B2 n2 c2 ku) ∧ Hid (Fs wr wr.heap.size X gs ∧ Room X gs.length xc) ∧ Hid (LoopW ps ks er res gs k wn)) (fun _ _ iv _ => ps.length - (intOf iv).toNat)
        case atStart => exact ⟨0, X, gs, xc, 0, Nat.zero_le _, rfl, rfl, rfl, HS3, HX3, HW3⟩
        case round =>
          clear HS3 HX3 HW3
          obtain ⟨k, X, gs, xc, wn, hk, rfl, rfl, rfl, HS, HX, HW⟩ := hrel
          by_cases hlt : k < ps.length
          · by_cases hw0 : wn = 0
            · subst hw0
              obtain ⟨hjw, hjl, hja⟩ := HW.out.1 rfl
              have hltk : k < (pkeys ps).length := by rw [pkeys_len]; exact hlt
              rw [List.drop_eq_getElem_cons hltk, show (pkeys ps)[k] = ps[k].key from by simp [pkeys]] at hja
              obtain ⟨e1, r1, hap1⟩ : ∃ e1 r1, apP (fkeys gs) ps[k].key = (e1, r1) := ⟨_, _, rfl⟩
              rw [apAll_cons _ _ _ _ _ hap1] at hja
              have hrl : e1 = 0 → r1.length ≤ ks.length + (k + 1) := fun _ => by
                have := ap_len (fkeys gs) ps[k].key
                rw [hap1, fkeys_len] at this
                simp only [] at this
                omega
              have hrw : e1 = 0 → Well r1 := fun e => by subst e; exact ap_well hjw hap1
              have CP := Lib.hid (refap_any X gs xc ps[k] wr HX.out.1 HX.out.2 hjw (by omega) (HS.out.ps.ok _ (List.getElem_mem _)) (HPL.out _ (List.getElem_mem _)) HS.out.tabs e1 r1 hap1)
              have HJ : Hid ((e1 = 0 → Well r1 ∧ r1.length ≤ ks.length + (k + 1) ∧ apAll r1 ((pkeys ps).drop (k + 1)) = (er, res)) ∧ (e1 ≠ 0 → e1 = er)) := ⟨fun e => ⟨hrw e, hrl e, by rw [if_pos e] at hja; exact hja⟩, fun e => by rw [if_neg e] at hja; exact (Prod.mk.inj hja).1⟩
              obtain ⟨b, off, e, bl, d0, d1, d2, d3, d4, d5⟩ := HS.out.ps.get hlt
              subst e
              unfold Pm.val at CP
              clear hjw hjl hja hltk hap1 hrl hrw HW
              generalize ps[k].kind = kind at *
              generalize ps[k].p = p at *
              generalize ps[k].dst = q at *
              generalize ps[k].at_ = at_ at *
              generalize ps[k].a1 = a1 at *
              generalize ps[k].c1 = c3 at *
              generalize ps[k].old.length = m1 at *
              generalize ps[k].a2 = a2 at *
              generalize ps[k].c2 = c4 at *
              generalize ps[k].new.length = m2 at *
              go_wp2_with fail
              refine CP.out.mono ?_
              rintro e w5 ⟨A5, k5, g5, rfl, hg, hb⟩
              have HS5 := Lib.hid (HS.out.on hb)
              have HX5 : Hid (Fs w5 w5.heap.size A5 g5 ∧ Room A5 g5.length k5) := ⟨hg.out.1, hg.out.2.1⟩
              have HW5 : Hid (LoopW ps ks er res g5 (k + 1) e1) := by
                have h := HJ.out
                rw [← hg.out.2.2, fkeys_len] at h
                exact h
              clear hg hb CP HS HX HJ d0 d1 d2 d3 d4 d5
              go_wp2
              go_roundw
              case rel => exact ⟨k + 1, A5, g5, k5, e1, by omega, rfl, rfl, by go_num, HS5, HX5, HW5⟩
              case measure => simp [intOf]; omega
            · obtain rfl : wn = er := HW.out.2 hw0
              have her := hw0
              have hw1 : (wn == 0) = false := by simpa using hw0
              have hltz : (k : Int) < (ps.length : Int) := by omega
              have e1 : (wn == 0) = false := by simpa using her
              have e2 : (wn != 0) = true := by simpa using her
              have CU := Lib.hid (fun W (hb : Below wr.heap.size wr W) => tree_c.all B2 n2 c2 ku W (HS.out.on hb).u (by rw [HKU.out.2 her]; simp))
              have u0 := HS.out.ua.c0
              go_wp2_with fail
              refine (CA.out _ HS.out.below).mono ?_
              rintro e w5 ⟨rfl, hb5⟩
              have HB5 := Lib.hid hb5
              clear hb5 u0
              have u0 := (HS.out.ua.on HB5.out).c0
              go_wp2_with fail
              refine (CU.out _ HB5.out).mono ?_
              rintro e w6 ⟨A6, f6, k6, rfl, hf6, hb6⟩
              have hz := hf6.out.2.2
              rw [HKU.out.2 her] at hz
              obtain rfl : f6 = [] := List.length_eq_zero_iff.1 (by rw [← fkeys_len, hz]; rfl)
              have HB6 := Lib.hid (HS.out.below.trans ((HB5.out.trans (hb6.mono HB5.out.size)).mono HS.out.below.size))
              clear hf6 hb6 hz CU u0
              go_wp2
              go_ret
              exact ⟨rfl, HB6.out⟩
          · have hke : k = ps.length := by omega
            subst hke
            have hltz : ¬ (ps.length : Int) < (ps.length : Int) := by omega
            by_cases hw0 : wn = 0
            · subst hw0
              obtain ⟨hjw, hjl, hja⟩ := HW.out.1 rfl
              rw [← pkeys_len, List.drop_length] at hja
              obtain ⟨e3, e4⟩ := Prod.mk.inj (show ((0 : Int), fkeys gs) = (er, res) from hja)
              subst e3
              have hkr : ku = res := HKU.out.1 rfl
              subst hkr
              have hgk := e4
              subst hgk
              have HRW := Lib.hid (apAll_well HWE.out HAP.out)
              have HRL := Lib.hid (apAll_len HAP.out)
              have hpk : (pkeys ps).length = ps.length := pkeys_len ps
              have hgl : (fkeys gs).length ≤ 80 := by
                have := HRL.out
                omega
              have HGL := Lib.hid hgl
              have HCK : Hid (∀ x ∈ ps, ckP x.key = 0) := fun x hx => apAll_ck HAP.out x.key (mem_keys hx)
              have CB : Hid (∀ (Wb W : World) (hS : Below wr.heap.size wr Wb) (hb : Below Wb.heap.size Wb W), Calls Tryz.prog 12 #[.slice A1 ps.length cap1] W (StepsLeft W (backP (pkeys ps)))) := fun Wb W hS hb => pback_any A1 ps cap1 W (HS.out.ps.on (hS.trans (hb.mono hS.size))) (by omega) HCK.out HPL.out
              have CA3 := Lib.hid (fun (A7 : Option Addr) (q7 : List Pm) (c7 : Nat) W (hb : Below wr.heap.size wr W) (hq : Ps W W.heap.size A7 q7 ∧ Room A7 q7.length c7 ∧ pkeys q7 = backP (pkeys ps) ∧ ∀ x ∈ q7, x.Light) => pall_any tree_c B2 n2 c2 (fkeys gs) A7 q7 c7 0 ks W (tree_c.on HS.out.u hb) (by
                have := congrArg List.length hq.2.2.1
                rw [pkeys_len, backP_len, pkeys_len] at this
                have := HGL.out
                omega) HRW.out hq.1 hq.2.2.2 (Tabs.on HS.out.tabs hb) (by rw [hq.2.2.1]; exact all_back HWE.out HAP.out))
              have u0 := HS.out.ua.c0
              have hglt : G7 < wr.heap.size := HS.out.ua.lt
              have hdr : Below wr.heap.size wr wr.drew := (Below.refl _ _).drew
              have HDR := Lib.hid hdr
              have HDA : Hid (Below wr.heap.size wr (wr.drew.alloc (.cells #[.slice none 0 0] 28))) := hdr.alloc (Nat.le_refl _) _
              clear hdr hpk hgl
              have q2 := hglt
              go_wp2_with fail
              go_region_held3 (fun w' => w'.cell? ⟨G7, 0, none⟩ = some (.slice B2 n2 c2)) (first | with_reducible exact u0 | with_reducible exact cell_on u0 HDA.out | with_reducible exact cell_on u0 hB7 | with_reducible exact cell_on u0 hB7a | with_reducible exact cell_on u0 hB8 | with_reducible exact cell_on u0 hB8a | with_reducible exact cell_on (cell_on u0 hB8) ((Below.refl _ _).alloc (Nat.le_refl _) _) | exact keep_cell (cell_on u0 hB8) (by omega) | (go_keep; done)) (first
                | (go_at_call 12; refine (CB.out wr _ (Below.refl _ _) HDR.out).mono ?_; rintro e w7 ⟨A7, q7, c7, rfl, hq7, hb7⟩; have hB7 : Below wr.heap.size wr w7 := HDR.out.trans (hb7.mono HDR.out.size); have hs7 := hB7.size; have hB7a : Below wr.heap.size wr (w7.alloc (.cells #[.slice none 0 0] 28)) := hB7.alloc hB7.size _; have hq7a : (Ps (w7.alloc (.cells #[.slice none 0 0] 28)) (w7.alloc (.cells #[.slice none 0 0] 28)).heap.size A7 q7 ∧ Room A7 q7.length c7 ∧ pkeys q7 = backP (pkeys ps) ∧ ∀ x ∈ q7, x.Light) := ⟨hq7.out.1.on ((Below.refl _ _).alloc (Nat.le_refl _) _), hq7.out.2⟩)
                | (go_at_call 12; refine (CB.out wr _ (Below.refl _ _) HDA.out).mono ?_; rintro e w7 ⟨A7, q7, c7, rfl, hq7, hb7⟩; have hB7 : Below wr.heap.size wr w7 := HDA.out.trans (hb7.mono HDA.out.size); have hs7 := hB7.size; have hB7a : Below wr.heap.size wr (w7.alloc (.cells #[.slice none 0 0] 28)) := hB7.alloc hB7.size _; have hq7a : (Ps (w7.alloc (.cells #[.slice none 0 0] 28)) (w7.alloc (.cells #[.slice none 0 0] 28)).heap.size A7 q7 ∧ Room A7 q7.length c7 ∧ pkeys q7 = backP (pkeys ps) ∧ ∀ x ∈ q7, x.Light) := ⟨hq7.out.1.on ((Below.refl _ _).alloc (Nat.le_refl _) _), hq7.out.2⟩)
                | (go_at_call 9; refine (CA3.out A7 q7 c7 _ (by first | with_reducible exact hB7 | with_reducible exact hB7a) (by first | with_reducible exact hq7.out | with_reducible exact hq7a)).mono ?_; rintro e w8 ⟨B8, n8, c8, rfl, ht8, hb8⟩; have hB8 : Below wr.heap.size wr w8 := (by first | exact hB7.trans (hb8.mono hB7.size) | exact hB7a.trans (hb8.mono hB7a.size)); have hB8a : Below wr.heap.size wr (w8.alloc (.cells #[.slice none 0 0] 28)) := hB8.alloc hB8.size _; first | (have hx8 : TAt w8 wr.heap.size none 0 0 := ((TAt.new_ wr.drew none 0 0).on hb7).on hb8; have x0 := hx8.c0; have x1 := hx8.fz 0) | (have hx8 : TAt w8 w7.heap.size none 0 0 := (TAt.new_ w7 none 0 0).on hb8; have x0 := hx8.c0; have x1 := hx8.fz 0) | skip))
              all_goals
                first
                | (have HQ : Hid (TAt (w8.setCell ⟨wr.heap.size, 0, none⟩ (.slice B8 n8 c8)) wr.heap.size B8 n8 c8 ∧ TrC (w8.setCell ⟨wr.heap.size, 0, none⟩ (.slice B8 n8 c8)) B8 n8 c8 ks ∧ Below wr.heap.size wr (w8.setCell ⟨wr.heap.size, 0, none⟩ (.slice B8 n8 c8))) := ⟨hx8.set B8 n8 c8, tree_c.set (ht8.out.1 (by simp)) hx8 (grown_cell _ _ _ _), below_set hB8 (by have := hB8.size; omega) hB8.size⟩
                   clear x0 x1 hx8 ht8 hb8 hB8 hB8a hq7 hq7a hb7 hs7 hB7 hB7a CA3 HDR HDA
                   have HS9 := Lib.hid (HS.out.on HQ.out.2.2)
                   have HX9 := Lib.hid (HX.out.1.on HQ.out.2.2)
                   have HQ1 := Lib.hid HQ.out.1
                   have HQ2 := Lib.hid HQ.out.2.1
                   clear HQ HS u0 q2 hglt
                   generalize (w8.setCell ⟨wr.heap.size, 0, none⟩ (.slice B8 n8 c8)) = w9 at *
                   generalize wr.heap.size = G14 at *)
                | (have HQ : Hid (TAt (w8.setCell ⟨w7.heap.size, 0, none⟩ (.slice B8 n8 c8)) w7.heap.size B8 n8 c8 ∧ TrC (w8.setCell ⟨w7.heap.size, 0, none⟩ (.slice B8 n8 c8)) B8 n8 c8 ks ∧ Below wr.heap.size wr (w8.setCell ⟨w7.heap.size, 0, none⟩ (.slice B8 n8 c8))) := ⟨hx8.set B8 n8 c8, tree_c.set (ht8.out.1 (by simp)) hx8 (grown_cell _ _ _ _), below_set hB8 (by have := hB8.size; omega) hB8.size⟩
                   clear x0 x1 hx8 ht8 hb8 hB8 hB8a hq7 hq7a hb7 hs7 hB7 hB7a CA3 HDR HDA
                   have HS9 := Lib.hid (HS.out.on HQ.out.2.2)
                   have HX9 := Lib.hid (HX.out.1.on HQ.out.2.2)
                   have HQ1 := Lib.hid HQ.out.1
                   have HQ2 := Lib.hid HQ.out.2.1
                   clear HQ HS u0 q2 hglt
                   generalize (w8.setCell ⟨w7.heap.size, 0, none⟩ (.slice B8 n8 c8)) = w9 at *
                   generalize w7.heap.size = G14 at *)
                | (have HQ : Hid (TAt (w8.alloc (.cells #[.slice B8 n8 c8] 28)) w8.heap.size B8 n8 c8 ∧ TrC (w8.alloc (.cells #[.slice B8 n8 c8] 28)) B8 n8 c8 ks ∧ Below wr.heap.size wr (w8.alloc (.cells #[.slice B8 n8 c8] 28))) := ⟨TAt.new_ w8 B8 n8 c8, tree_c.on (ht8.out.1 (by simp)) ((Below.refl _ _).alloc (Nat.le_refl _) _), hB8.alloc hB8.size _⟩
                   clear ht8 hb8 hB8 hB8a hq7 hq7a hb7 hs7 hB7 hB7a CA3 HDR HDA
                   have HS9 := Lib.hid (HS.out.on HQ.out.2.2)
                   have HX9 := Lib.hid (HX.out.1.on HQ.out.2.2)
                   have HQ1 := Lib.hid HQ.out.1
                   have HQ2 := Lib.hid HQ.out.2.1
                   clear HQ HS u0 q2 hglt
                   generalize (w8.alloc (.cells #[.slice B8 n8 c8] 28)) = w9 at *
                   generalize w8.heap.size = G14 at *)
                clear CB
                go_wp2_with fail
                refine (CA.out _ HS9.out.below).mono ?_
                rintro e w10 ⟨rfl, hb10⟩
                have HS10 := Lib.hid (HS9.out.on hb10)
                have HX10 := Lib.hid (HX9.out.on hb10)
                have HQ1 := Lib.hid (HQ1.out.on hb10)
                have HQ2 := Lib.hid (tree_c.on HQ2.out hb10)
                clear hb10 HS9 HX9
                have t7 := HS10.out.ua.c0
                go_wp2_with fail
                refine (tree_c.all B2 n2 c2 (fkeys gs) w10 HS10.out.u (by have := HGL.out; omega)).mono ?_
                rintro e w11 ⟨A11, f11, k11, rfl, hf11, hb11⟩
                have HS11 := Lib.hid (HS10.out.on hb11)
                have HX11 := Lib.hid (HX10.out.on hb11)
                have HQ1 := Lib.hid (HQ1.out.on hb11)
                have HQ2 := Lib.hid (tree_c.on HQ2.out hb11)
                have CS := Lib.hid (refsamef_any A11 X f11 gs k11 xc w11 true (decide_eq_true hf11.out.2.2) hf11.out.1 HX11.out (short_of hf11.out.2.2 HRW.out (by have := HGL.out; omega)) (short_of rfl HRW.out (by have := HGL.out; omega)))
                clear hf11 hb11 t7 HS10 HX10
                go_wp2_with fail
                refine CS.out.mono ?_
                rintro e w12 ⟨rfl, q, rfl⟩
                have hdq := below_drewN (Below.refl w11.heap.size w11) q
                have HS12 := Lib.hid (HS11.out.on hdq)
                have HQ1 := Lib.hid (HQ1.out.on hdq)
                have HQ2 := Lib.hid (tree_c.on HQ2.out hdq)
                clear hdq CS HS11 HX11
                have t14 := HQ1.out.c0
                have t5 := HS12.out.ta.c0
                go_wp2_with fail
                generalize w11.drewN q = w12 at *
                refine (tree_c.same B8 n8 c8 ks B1 n1 c1 ks w12 HQ2.out HS12.out.t (by omega) (by omega)).mono ?_
                rw [decide_eq_true rfl]
                rintro e w13 ⟨rfl, hb13⟩
                have HS13 := Lib.hid (HS12.out.on hb13)
                clear hb13 HS12 HQ1 HQ2 t14 t5
                have CB1 := Lib.hid (pback_any A1 ps cap1 w13 HS13.out.ps (by omega) HCK.out HPL.out)
                go_wp2_with fail
                refine CB1.out.mono ?_
                rintro e w14 ⟨A14, q14, c14, rfl, hq14, hb14⟩
                have HS14 := Lib.hid (HS13.out.on hb14)
                have hl14 : q14.length = ps.length := by
                  have := congrArg List.length hq14.out.2.2.1
                  rwa [pkeys_len, backP_len, pkeys_len] at this
                have HL14 := Lib.hid hl14
                have CB2 := Lib.hid (pback_any A14 q14 c14 w14 hq14.out.1 (by omega) (fun x hx => backP_ck HAP.out x.key (by rw [← hq14.out.2.2.1]; exact mem_keys hx)) hq14.out.2.2.2)
                have HK14 := Lib.hid hq14.out.2.2.1
                clear hb14 HS13 CB1 hq14 hl14
                go_wp2_with fail
                refine CB2.out.mono ?_
                rintro e w15 ⟨A15, q15, c15, rfl, hq15, hb15⟩
                have HS15 := Lib.hid (HS14.out.on hb15)
                have hk15 : pkeys q15 = pkeys ps := by rw [hq15.out.2.2.1, HK14.out, backP_back]
                have hl15 : q15.length = ps.length := by rw [← pkeys_len, hk15, pkeys_len]
                have CS2 := Lib.hid (psameall_any A15 A1 q15 ps c15 cap1 w15 true (decide_eq_true hk15).symm hq15.out.1 HS15.out.ps ⟨by omega, hq15.out.2.2.2⟩ ⟨by omega, HPL.out⟩)
                clear hb15 HS14 CB2 hq15 hk15 hl15 HL14 HK14
                go_wp2_with fail
                refine CS2.out.mono ?_
                rintro e w16 ⟨rfl, hb16⟩
                have HB16 := Lib.hid (HS15.out.below.trans (hb16.mono HS15.out.below.size))
                clear hb16 CS2 HS15
                go_wp2
                go_ret
                exact ⟨rfl, HB16.out⟩
            · obtain rfl : wn = er := HW.out.2 hw0
              have her := hw0
              have e1 : (wn == 0) = false := by simpa using her
              have e2 : (wn != 0) = true := by simpa using her
              have CU := Lib.hid (fun W (hb : Below wr.heap.size wr W) => tree_c.all B2 n2 c2 ku W (HS.out.on hb).u (by rw [HKU.out.2 her]; simp))
              have u0 := HS.out.ua.c0
              go_wp2_with fail
              refine (CA.out _ HS.out.below).mono ?_
              rintro e w5 ⟨rfl, hb5⟩
              have HB5 := Lib.hid hb5
              clear hb5 u0
              have u0 := (HS.out.ua.on HB5.out).c0
              go_wp2_with fail
              refine (CU.out _ HB5.out).mono ?_
              rintro e w6 ⟨A6, f6, k6, rfl, hf6, hb6⟩
              have hz := hf6.out.2.2
              rw [HKU.out.2 her] at hz
              obtain rfl : f6 = [] := List.length_eq_zero_iff.1 (by rw [← fkeys_len, hz]; rfl)
              have HB6 := Lib.hid (HS.out.below.trans ((HB5.out.trans (hb6.mono HB5.out.size)).mono HS.out.below.size))
              clear hf6 hb6 hz CU u0
              go_wp2
              go_ret
              exact ⟨rfl, HB6.out⟩
      · have e1 : (er0 == 0) = false := by simpa using he0
        have e2 : (er0 != 0) = true := by simpa using he0
        clear hperm hweak hofe ht hb hal
        go_wp2_with fail
        refine (CA.out _ HB1.out).mono ?_
        rintro e wk ⟨rfl, hb⟩
        have HB := Lib.hid (HB1.out.trans (hb.mono HB1.out.size))
        clear hb
        go_wp2
        go_ret
        exact ⟨rfl, HB.out⟩
end Go.Proofs.YtaepfahpbnpeiaaGreatDoor
