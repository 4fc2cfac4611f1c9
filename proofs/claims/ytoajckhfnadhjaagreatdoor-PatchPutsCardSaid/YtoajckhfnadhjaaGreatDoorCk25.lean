/- Package patch: Get. -/
import Derived.ChangeOld
import Derived.SliceStrings
import Derived.WideShapes
import Derived.Deep.Slices
import Derived.Deep.Fields
import Derived.ChangeSame
import Derived.ChangeArms
import Derived.SizedLaws
import Derived.BigRegion
import Derived.Deep.RegionWith
import Derived.BigQuiet
import Derived.Deep.QuietTactic
import Derived.Handy
import Derived.Deep.CutRange
import Derived.Deep.RegionLaw
import Derived.Lib.QuietBelow
import Derived.Test.YtoajckhfnadhjaaGreatDoorCk16
import Derived.Test.YtoajckhfnadhjaaGreatDoorCk24
namespace Go.Proofs.YtoajckhfnadhjaaGreatDoor
open Go.RowKit
set_option linter.unusedVariables false

theorem sized_pat : (Tryz.prog.info? 25).map (·.size) = some 3 := by kernel_rfl
theorem load_pat {w : World} {g : Nat} {u0 u1 u2 : Value} (k : PatB w g u0 u1 u2) : (loadVar 25 ⟨g, 0, none⟩).run Tryz.prog w = .ok (.agg #[u0, u1, u2]) w :=
  run_loadVar_row w g 25 25 #[u0, u1, u2] (0, 0) _ k.blk Tryz.underlying25 rfl sized_pat
theorem ret_pat {fn : Func} {p : Tmp} (h : fn.results = #[.cell p 25]) (tmps : Array Value) (w : World) (g : Nat) (u0 u1 u2 : Value) (hp : tmps.getD p undef = .pointer (some ⟨g, 0, none⟩)) (k : PatB w g u0 u1 u2) :
    (results fn tmps).run Tryz.prog w = .ok (.agg #[u0, u1, u2]) w :=
  results_cell_row h tmps w g 25 #[u0, u1, u2] (0, 0) _ hp k.blk Tryz.underlying25 rfl sized_pat
theorem ret_pat2 {fn : Func} {p u : Tmp} (h : fn.results = #[.cell p 25, .tmp u]) (tmps : Array Value) (w : World) (g : Nat) (u0 u1 u2 : Value) (v : Value) (hp : tmps.getD p undef = .pointer (some ⟨g, 0, none⟩)) (hv : tmps.getD u undef = v) (k : PatB w g u0 u1 u2) :
    (results fn tmps).run Tryz.prog w = .ok (.tuple #[.agg #[u0, u1, u2], v]) w := by
  rw [results_cell_tmp h, hp, hv]
  simp [asAddr, load_pat k, Result.andThen]
theorem patb_set3 {w : World} {g : Nat} {v0 v1 v2 : Value} (h : PatB w g v0 v1 v2) (u0 u1 u2 : Value) : PatB (((w.setCell ⟨g, 0, none⟩ u0).setCell ⟨g, 1, none⟩ u1).setCell ⟨g, 2, none⟩ u2) g u0 u1 u2 := ⟨by simp [World.setCell, Array.getElem?_modify, h.blk]⟩
theorem grown_set3 (w : World) (g : Nat) (u0 u1 u2 : Value) : w.grownBy (((w.setCell ⟨g, 0, none⟩ u0).setCell ⟨g, 1, none⟩ u1).setCell ⟨g, 2, none⟩ u2) (some g) := Rk.grown_both (Rk.grown_both (grownBy_set w g 0 _) (grownBy_set _ g 1 _)) (grownBy_set _ g 2 _)
theorem owns_past {w w' : World} {B g : Nat} {v : Value} {ls : List (List UInt8)} (h : OwnS w B v ls) (hg : w.grownBy w' (some g)) (hB : g < B) : OwnS w' B v ls :=
  owns_grown h hg (fun k hk e => by have h1 := (owns_in h k hk).1; simp only [Option.some.injEq] at e; omega)
/-- What stands while a patch is read. -/
structure PG (w W : World) (gr g gp : Nat) (s : St) (u0 u1 u2 : Value) : Prop where
  below : Below w.heap.size w W
  rd : RdS W g s
  res : PatB W gr (.string ⟨#[]⟩) (.slice none 0 0) (.slice none 0 0)
  p : PatB W gp u0 u1 u2
  n : w.heap.size ≤ gr ∧ gr < g ∧ g < gp
section
variable {w W W' : World} {gr g gp : Nat} {s s' : St} {u0 u1 u2 : Value}
theorem PG.read (h : PG w W gr g gp s u0 u1 u2) (hr : RdS W' g s') (hg : W.grownBy W' (some g)) : PG w W' gr g gp s' u0 u1 u2 := by
  have hn := h.n
  exact ⟨h.below.grown hg h.below.size (fun q hq => by simp only [Option.some.injEq] at hq; omega), hr, ⟨(hg.block gr h.res.lt (fun e => by simp only [Option.some.injEq] at e; omega)).trans h.res.blk⟩, ⟨(hg.block gp h.p.lt (fun e => by simp only [Option.some.injEq] at e; omega)).trans h.p.blk⟩, hn⟩
theorem PG.on (h : PG w W gr g gp s u0 u1 u2) (hb : Below W.heap.size W W') : PG w W' gr g gp s u0 u1 u2 := ⟨h.below.trans (hb.mono h.below.size), h.rd.below hb, h.res.on hb, h.p.on hb, h.n⟩
theorem PG.put (h : PG w W gr g gp s u0 u1 u2) {v0 v1 v2 : Value} (hg : W.grownBy W' (some gp)) (hp : PatB W' gp v0 v1 v2) : PG w W' gr g gp s v0 v1 v2 := by
  have hn := h.n
  have hgl : g < W.heap.size := h.rd.lt
  exact ⟨h.below.grown hg h.below.size (fun q hq => by simp only [Option.some.injEq] at hq; omega), (hg.block g hgl (fun e => by simp only [Option.some.injEq] at e; omega)).trans h.rd, ⟨(hg.block gr h.res.lt (fun e => by simp only [Option.some.injEq] at e; omega)).trans h.res.blk⟩, hp, hn⟩
theorem PG.put0 (h : PG w W gr g gp s u0 u1 u2) (v : Value) : PG w (W.setCell ⟨gp, 0, none⟩ v) gr g gp s v u1 u2 := h.put (grownBy_set W gp 0 v) ⟨by simp [World.setCell, Array.getElem?_modify, h.p.blk]⟩
theorem PG.put1 (h : PG w W gr g gp s u0 u1 u2) (v : Value) : PG w (W.setCell ⟨gp, 1, none⟩ v) gr g gp s u0 v u2 := h.put (grownBy_set W gp 1 v) ⟨by simp [World.setCell, Array.getElem?_modify, h.p.blk]⟩
theorem PG.put2 (h : PG w W gr g gp s u0 u1 u2) (v : Value) : PG w (W.setCell ⟨gp, 2, none⟩ v) gr g gp s u0 u1 v := h.put (grownBy_set W gp 2 v) ⟨by simp [World.setCell, Array.getElem?_modify, h.p.blk]⟩
theorem PG.fin (h : PG w W gr g gp s u0 u1 u2) (hg : W.grownBy W' (some gr)) : Below w.heap.size w W' := by
  have hn := h.n
  exact h.below.grown hg h.below.size (fun q hq => by simp only [Option.some.injEq] at hq; omega)
end
theorem got_none {s : ByteArray} {er : Int} (h : ∀ p : PatK, p.deps.length ≤ 9223372036854775807 → checkP p = 0 → putP p ≠ s.data.toList) (he : er ≠ 0) : GotP s zeroT er :=
  ⟨fun e => absurd e he, fun _ => ⟨rfl, fun k hd hk e => h k hd hk (by rw [← e, of_toB])⟩⟩
set_option maxHeartbeats 8000000 in
set_option maxRecDepth 100000 in
theorem pget_any (s : ByteArray) (w : World) (hs : s.size ≤ 500000) (hT : Tabs w) (hN : Nums w) : Calls Tryz.prog 14 #[.string s] w (GetPL s w) := by
  obtain ⟨hb0, hz0⟩ := patb_box w (.string ⟨#[]⟩) (.slice none 0 0) (.slice none 0 0)
  have HR0 := Lib.hid hz0
  have HB0 := Lib.hid hb0
  have hlt0 := hz0.lt
  have HT0 := Lib.hid hT
  have HN0 := Lib.hid hN
  have hsz : ¬ (s.size : Int) > 1048576 := by omega
  have HSZ : Hid (s.data.toList.length ≤ 500000) := by show _ ≤ _; rw [bytes_len]; exact hs
  clear hb0 hz0 hT hN
  go_enter Tryz.func14, Tryz.ntmps14
  go_upto_region 1 with (fail)
  generalize (w.alloc (.cells #[.string ⟨#[]⟩, .slice none 0 0, .slice none 0 0] 25)) = w1 at *
  have CR := Lib.hid (read_any s w1)
  go_upto_region 4 with (go_at_call 40; refine CR.out.mono ?_; rintro e w2 ⟨rfl, hr, hb⟩)
  have HR1 := Lib.hid (HR0.out.on hb)
  have HRD := Lib.hid hr
  have hlt1 : w1.heap.size < w2.heap.size := hr.lt
  have HB1 := Lib.hid (HB0.out.trans (hb.mono HB0.out.size))
  clear hb hr CR HR0 HB0 hsz
  generalize w1.heap.size = g at *
  obtain ⟨hb2, hz2⟩ := patb_box w2 (.string ⟨#[]⟩) (.slice none 0 0) (.slice none 0 0)
  have hpg : PG w (w2.alloc (.cells #[.string ⟨#[]⟩, .slice none 0 0, .slice none 0 0] 25)) w.heap.size g w2.heap.size (s.data.toList, 0) (.string ⟨#[]⟩) (.slice none 0 0) (.slice none 0 0) := ⟨HB1.out.trans (hb2.mono HB1.out.size), HRD.out.below hb2, HR1.out.on hb2, hz2, Nat.le_refl _, hlt0, hlt1⟩
  have HPG := Lib.hid hpg
  clear hb2 hz2 hpg HB1 HRD HR1
  go_upto_region 5 with (fail)
  generalize (w2.alloc (.cells #[.string ⟨#[]⟩, .slice none 0 0, .slice none 0 0] 25)) = w3 at *
  generalize hgp : w2.heap.size = gp at *
  clear hgp
  obtain ⟨t, ht⟩ : ∃ t, (sText (s.data.toList, 0)).1 = t := ⟨_, rfl⟩
  obtain ⟨s1, hs1⟩ : ∃ q, (sText (s.data.toList, 0)).2 = q := ⟨_, rfl⟩
  have hrp := readsP s.data.toList
  have hl1 := sText_len (s.data.toList, 0)
  have CT := Lib.hid (rtext_any g (s.data.toList, 0) w3 HPG.out.rd (Nat.le_trans HSZ.out (by decide)))
  rw [ht, hs1] at CT hl1 hrp
  have HSS := Lib.hid HSZ.out
  have HL1 : Hid (s1.1.length ≤ 500000 ∧ t.length ≤ 500000) := ⟨Nat.le_trans hl1.1 HSS.out, Nat.le_trans hl1.2 HSS.out⟩
  clear ht hs1 hl1
  -- @R5
  go_wp2_with fail
  refine CT.out.mono ?_
  rintro e w4 ⟨rfl, hr, hg⟩
  replace HPG := Lib.hid (HPG.out.read hr hg)
  have k0 := HPG.out.p.c0
  have f0 := HPG.out.p.fz 0
  replace HPG := Lib.hid (HPG.out.put0 (.string (toB t)))
  clear hr hg CT
  go_upto_region 6 with (fail)
  generalize (w4.setCell ⟨gp, 0, none⟩ (.string (toB t))) = w5 at *
  clear k0 f0
  -- @R6
  obtain ⟨ds, hds⟩ : ∃ t, (sList s1).1 = t := ⟨_, rfl⟩
  obtain ⟨s2, hs2⟩ : ∃ q, (sList s1).2 = q := ⟨_, rfl⟩
  have hl2 := sList_len s1
  have CL := Lib.hid (rlist_any g s1 w5 HPG.out.rd (Nat.le_trans HL1.out.1 (by decide)))
  unfold ListLeft at CL
  rw [hds, hs2] at CL hl2 hrp
  have HL2 : Hid (s2.1.length ≤ 500000 ∧ ds.length ≤ 500000 ∧ ∀ x ∈ ds, x.length ≤ 500000) := ⟨Nat.le_trans hl2.1 HL1.out.1, Nat.le_trans hl2.2.1 HL1.out.1, fun x hx => Nat.le_trans (hl2.2.2 x hx) HL1.out.1⟩
  clear hds hs2 hl2
  go_wp2_with fail
  refine CL.out.mono ?_
  rintro e w6 ⟨A1, n1, c1, rfl, hn1, ho1, hrm1, hr, hg⟩
  have HN1 := Lib.hid hn1
  have HLB : Hid (gp < w5.heap.size) := HPG.out.p.lt
  replace HPG := Lib.hid (HPG.out.read hr hg)
  have k0 := HPG.out.p.c1
  have f0 := HPG.out.p.fz 1
  have HD := Lib.hid (owns_past ho1 (grown_cell1 w6 gp 1 (.slice A1 n1 c1)) HLB.out)
  replace HPG := Lib.hid (HPG.out.put1 (.slice A1 n1 c1))
  clear hr hg CL hn1 ho1 hrm1
  go_upto_region 7 with (fail)
  generalize (w6.setCell ⟨gp, 1, none⟩ (.slice A1 n1 c1)) = w7 at *
  clear k0 f0
  generalize w5.heap.size = B1 at *
  -- @R7
  obtain ⟨os, hos⟩ : ∃ t, (sList s2).1 = t := ⟨_, rfl⟩
  obtain ⟨s3, hs3⟩ : ∃ q, (sList s2).2 = q := ⟨_, rfl⟩
  have hl3 := sList_len s2
  have CL := Lib.hid (rlist_any g s2 w7 HPG.out.rd (Nat.le_trans HL2.out.1 (by decide)))
  unfold ListLeft at CL
  rw [hos, hs3] at CL hl3 hrp
  have HL3 : Hid (os.length ≤ 500000 ∧ ∀ x ∈ os, x.length ≤ 500000) := ⟨Nat.le_trans hl3.2.1 HL2.out.1, fun x hx => Nat.le_trans (hl3.2.2 x hx) HL2.out.1⟩
  have HRP := Lib.hid hrp
  clear hos hs3 hl3 hrp
  go_wp2_with fail
  refine CL.out.mono ?_
  rintro e w8 ⟨A3, n3, c3, rfl, hn3, ho3, hrm3, hr, hg⟩
  have HN3 := Lib.hid hn3
  have HO3 := Lib.hid ho3
  have HGB : Hid (g < B1) := by show _ < _; have h1 := HPG.out.n.2.2; have h2 := HLB.out; omega
  replace HD := Lib.hid (owns_past HD.out hg HGB.out)
  replace HPG := Lib.hid (HPG.out.read hr hg)
  clear hr hg CL hn3 ho3 hrm3
  -- @R8
  have CE := Lib.hid (err_any g s3.1 s3.2 w8 HPG.out.rd)
  obtain ⟨er, her⟩ : ∃ er, s3.2 = er := ⟨_, rfl⟩
  rw [her] at CE
  have HER := Lib.hid her
  clear her
  go_upto_region 9 with (go_at_call 43; refine CE.out.mono ?_; rintro e w9 ⟨rfl, hw⟩)
  have hw2 := hw.symm
  clear hw
  subst hw2
  clear CE
  by_cases he : er = 0
  · subst he
    have CO : Hid (Calls Tryz.prog 44 #[.slice A3 n3 c3] w9 (OpsOfLeft os w9)) := by
      have h := popsof_any A3 os c3 w9 (HO3.out.at_.1) HL3.out.1 HL3.out.2 (Tabs.on HT0.out HPG.out.below) (HN0.out.on HPG.out.below)
      show Calls _ _ _ _ _
      rw [HN3.out]
      exact h
    go_upto_region 12 with (fail)
    -- @R12
    go_wp2_with fail
    refine CO.out.mono ?_
    rintro e w10 ⟨A2, n2, c2, b, zs, rfl, hn2, ho2, hm2, ht2, hf2, hb2⟩
    have HGL : Hid (gp < w9.heap.size) := HPG.out.p.lt
    replace HPG := Lib.hid (HPG.out.on hb2)
    have k0 := HPG.out.p.c2
    have f0 := HPG.out.p.fz 2
    have HOZ := Lib.hid (ho2.away (grown_cell1 w10 gp 2 (.slice A2 n2 c2)) HGL.out)
    replace HD := Lib.hid (owns_past (HD.out.kept hb2) (grown_cell1 w10 gp 2 (.slice A2 n2 c2)) HLB.out)
    replace HPG := Lib.hid (HPG.out.put2 (.slice A2 n2 c2))
    have HN2 := Lib.hid hn2.out
    have HM2 := Lib.hid hm2.out
    have HT2 := Lib.hid ht2.out
    have HF2 := Lib.hid hf2.out
    clear hn2 ho2 hm2 ht2 hf2 hb2 CO HO3
    go_upto_region 13 with (fail)
    generalize (w10.setCell ⟨gp, 2, none⟩ (.slice A2 n2 c2)) = w11 at *
    clear k0 f0
    generalize w9.heap.size = B2 at *
    -- @R13
    cases b
    · have HV : Hid (GotP s zeroT 6) := got_none (HRP.out.noop (HF2.out rfl)) (by decide)
      clear HD HOZ HN2 HM2 HT2 HF2 HRP
      have r0 := HPG.out.res.c0
      have r1 := HPG.out.res.c1
      have r2 := HPG.out.res.c2
      have rf0 := HPG.out.res.fz 0
      have rf1 := HPG.out.res.fz 1
      have rf2 := HPG.out.res.fz 2
      have HQ := Lib.hid (patb_set3 HPG.out.res (.string ⟨#[]⟩) (.slice none 0 0) (.slice none 0 0))
      have HBQ := Lib.hid (HPG.out.fin (grown_set3 w11 w.heap.size (.string ⟨#[]⟩) (.slice none 0 0) (.slice none 0 0)))
      clear HPG 
      -- @P9
      go_wp2
      (try simp only [Exit.inBlock, Exit.then])
      refine bodyPost_ret (ret_pat2 rfl _ _ w.heap.size (.string ⟨#[]⟩) (.slice none 0 0) (.slice none 0 0) (.int .i64 6) rfl rfl HQ.out) rfl ?_
      exact ⟨zeroT, 6, rfl, HV, ⟨Strs.none_, ⟨fun _ => rfl, Nat.le_refl _⟩, ⟨Rk.Row.nil, fun x hx => by simp [zeroT] at hx⟩, ⟨fun _ => rfl, Nat.le_refl _⟩⟩, HBQ.out⟩
    · have HK := Lib.hid (HT2.out rfl)
      clear HT2 HF2
      have CF := Lib.hid (left_any g s3.1 s3.2 w11 HPG.out.rd)
      obtain ⟨lf, hlf⟩ : ∃ l, s3.1 = l := ⟨_, rfl⟩
      rw [hlf] at CF
      have HLF := Lib.hid hlf
      obtain ⟨nl, hnl⟩ : ∃ n, lf.length = n := ⟨_, rfl⟩
      rw [hnl] at CF
      have HNL := Lib.hid hnl
      clear hlf hnl
      go_wp2_with fail
      refine CF.out.mono ?_
      rintro e w12 ⟨rfl, hw⟩
      have hw2 := hw.symm
      clear hw
      subst hw2
      clear CF
      by_cases hl0 : 0 < nl
      · have q1 : (nl : Int) > 0 := by omega
        have HV : Hid (GotP s zeroT 6) := got_none (HRP.out.none (.inr (by rw [HLF.out]; intro e; have h := HNL.out; rw [e] at h; simp at h; omega))) (by decide)
        clear HD HOZ HN2 HM2 HRP HK
        have r0 := HPG.out.res.c0
        have r1 := HPG.out.res.c1
        have r2 := HPG.out.res.c2
        have rf0 := HPG.out.res.fz 0
        have rf1 := HPG.out.res.fz 1
        have rf2 := HPG.out.res.fz 2
        have HQ := Lib.hid (patb_set3 HPG.out.res (.string ⟨#[]⟩) (.slice none 0 0) (.slice none 0 0))
        have HBQ := Lib.hid (HPG.out.fin (grown_set3 w12 w.heap.size (.string ⟨#[]⟩) (.slice none 0 0) (.slice none 0 0)))
        clear HPG 
        -- @P9
        go_wp2
        (try simp only [Exit.inBlock, Exit.then])
        refine bodyPost_ret (ret_pat2 rfl _ _ w.heap.size (.string ⟨#[]⟩) (.slice none 0 0) (.slice none 0 0) (.int .i64 6) rfl rfl HQ.out) rfl ?_
        exact ⟨zeroT, 6, rfl, HV, ⟨Strs.none_, ⟨fun _ => rfl, Nat.le_refl _⟩, ⟨Rk.Row.nil, fun x hx => by simp [zeroT] at hx⟩, ⟨fun _ => rfl, Nat.le_refl _⟩⟩, HBQ.out⟩
      · have q1 : ¬ (nl : Int) > 0 := by omega
        have HLE : Hid (s3.1 = []) := by show _ = _; rw [HLF.out]; exact List.length_eq_zero_iff.1 (by have h := HNL.out; omega)
        obtain ⟨z, hz⟩ : ∃ z : Ptm, z = ⟨toB t, A1, c1, ds, A2, c2, zs⟩ := ⟨_, rfl⟩
        have hzk : z.key = ⟨t, ds, okeys zs⟩ := by
          rw [hz]
          show (⟨(toB t).data.toList, ds, okeys zs⟩ : PatK) = _
          rw [of_toB]
        have HZK := Lib.hid hzk
        have HZ := Lib.hid hz
        have HOKZ : Hid (z.Ok w12 w12.heap.size) := by
          show z.Ok _ _
          rw [hz]
          obtain ⟨d1, d2, d3⟩ := HD.out.at_
          exact ⟨d1, by show Room A1 ds.length c1; rw [← d3]; exact d2, HOZ.out.ops, HOZ.out.row.parts.2.2.1⟩
        have HCK : Hid (z.Ck) := by
          show z.Ck
          rw [hz]
          have hzl := congrArg List.length HK.out
          rw [List.length_map, okeys_len] at hzl
          have h1 := HL3.out.1
          refine ⟨by show (toB t).size ≤ _; rw [toB_size]; have := HL1.out.2; omega, by show ds.length ≤ _; have := HL2.out.2.1; omega, fun d hd => by have := HL2.out.2.2 d hd; omega, by show zs.length ≤ _; omega, fun o ho => pu_sz (pu_may (HM2.out o ho)) (HM2.out o ho)⟩
        obtain ⟨rc, hrc⟩ : ∃ rc, checkP z.key = rc := ⟨_, rfl⟩
        have HRC := Lib.hid hrc
        have CC : Hid (Calls Tryz.prog 10 #[.agg #[.string (toB t), .slice A1 n1 c1, .slice A2 n2 c2]] w12 fun e w' => e = .returned (.int .i64 rc) ∧ Below w12.heap.size w12 w') := by
          have h := pcheck_any z w12 HOKZ.out HCK.out (Tabs.on HT0.out HPG.out.below) rc hrc
          show Calls _ _ _ _ _
          rw [HN1.out, HN2.out]
          rw [hz] at h
          exact h
        have p0 := HPG.out.p.c0
        have p1 := HPG.out.p.c1
        have p2 := HPG.out.p.c2
        clear hl0 hzk hz hrc
        -- @R14
        go_wp2_with fail
        refine CC.out.mono ?_
        rintro e w13 ⟨rfl, hb13⟩
        replace HPG := Lib.hid (HPG.out.on hb13)
        replace HD := Lib.hid (HD.out.kept hb13)
        replace HOZ := Lib.hid (HOZ.out.on hb13)
        clear hb13 CC p0 p1 p2 HOKZ HCK
        by_cases hc : rc = 0
        · subst hc
          have r0 := HPG.out.res.c0
          have r1 := HPG.out.res.c1
          have r2 := HPG.out.res.c2
          have rf0 := HPG.out.res.fz 0
          have rf1 := HPG.out.res.fz 1
          have rf2 := HPG.out.res.fz 2
          have p0 := HPG.out.p.c0
          have p1 := HPG.out.p.c1
          have p2 := HPG.out.p.c2
          have hg3 := grown_set3 w13 w.heap.size (.string (toB t)) (.slice A1 n1 c1) (.slice A2 n2 c2)
          have HQ := Lib.hid (patb_set3 HPG.out.res (.string (toB t)) (.slice A1 n1 c1) (.slice A2 n2 c2))
          have HBQ := Lib.hid (HPG.out.fin hg3)
          have hB1 : w.heap.size < B1 := by have h1 := HPG.out.n.2.1; have h2 := HGB.out; omega
          have hB2 : w.heap.size < B2 := by have h1 := HPG.out.n; have h2 := HGL.out; omega
          have HD2 := Lib.hid (owns_past HD.out hg3 hB1)
          have HOZ2 := Lib.hid (HOZ.out.away hg3 hB2)
          have HV : Hid (GotP s z 0) := ⟨fun _ => ⟨HRC.out, by rw [HZK.out, HRP.out.puts HER.out HLE.out HK.out, toB_of]⟩, fun h => absurd rfl h⟩
          clear hg3 HPG HD HOZ HRP HM2 HK
          -- @P8
          go_wp2
          (try simp only [Exit.inBlock, Exit.then])
          refine bodyPost_ret (ret_pat2 rfl _ _ w.heap.size (.string (toB t)) (.slice A1 n1 c1) (.slice A2 n2 c2) (.int .i64 0) rfl rfl HQ.out) rfl ?_
          refine ⟨z, 0, ?_, HV, ?_, HBQ.out⟩
          · rw [HZ.out, HN1.out, HN2.out]
            rfl
          · rw [HZ.out]
            obtain ⟨d1, d2, d3⟩ := HD2.out.at_
            exact ⟨d1, by show Room A1 ds.length c1; rw [← d3]; exact d2, HOZ2.out.ops, HOZ2.out.row.parts.2.2.1⟩
        · have q2 : (rc != 0) = true := by rw [bne_iff_ne]; exact hc
          have HV : Hid (GotP s zeroT 6) := got_none (fun p hd hp he => hc (by
            have h := HRP.out.one HK.out (fun k hk => by obtain ⟨o, ho, rfl⟩ := List.mem_map.1 hk; exact HM2.out o ho) p hd hp he
            rw [← HRC.out, HZK.out, ← h]
            exact hp)) (by decide)
          clear hc HD HOZ HN2 HM2 HRP HK
          have r0 := HPG.out.res.c0
          have r1 := HPG.out.res.c1
          have r2 := HPG.out.res.c2
          have rf0 := HPG.out.res.fz 0
          have rf1 := HPG.out.res.fz 1
          have rf2 := HPG.out.res.fz 2
          have HQ := Lib.hid (patb_set3 HPG.out.res (.string ⟨#[]⟩) (.slice none 0 0) (.slice none 0 0))
          have HBQ := Lib.hid (HPG.out.fin (grown_set3 w13 w.heap.size (.string ⟨#[]⟩) (.slice none 0 0) (.slice none 0 0)))
          clear HPG 
          -- @P9
          go_wp2
          (try simp only [Exit.inBlock, Exit.then])
          refine bodyPost_ret (ret_pat2 rfl _ _ w.heap.size (.string ⟨#[]⟩) (.slice none 0 0) (.slice none 0 0) (.int .i64 6) rfl rfl HQ.out) rfl ?_
          exact ⟨zeroT, 6, rfl, HV, ⟨Strs.none_, ⟨fun _ => rfl, Nat.le_refl _⟩, ⟨Rk.Row.nil, fun x hx => by simp [zeroT] at hx⟩, ⟨fun _ => rfl, Nat.le_refl _⟩⟩, HBQ.out⟩
  · have q1 : (er != 0) = true := by rw [bne_iff_ne]; exact he
    have HV : Hid (GotP s zeroT er) := got_none (HRP.out.none (.inl (by rw [HER.out]; exact he))) he
    clear he HD HO3 HRP
    have r0 := HPG.out.res.c0
    have r1 := HPG.out.res.c1
    have r2 := HPG.out.res.c2
    have rf0 := HPG.out.res.fz 0
    have rf1 := HPG.out.res.fz 1
    have rf2 := HPG.out.res.fz 2
    have HQ := Lib.hid (patb_set3 HPG.out.res (.string ⟨#[]⟩) (.slice none 0 0) (.slice none 0 0))
    have HBQ := Lib.hid (HPG.out.fin (grown_set3 w9 w.heap.size (.string ⟨#[]⟩) (.slice none 0 0) (.slice none 0 0)))
    clear HPG 
    -- @P9
    go_wp2
    (try simp only [Exit.inBlock, Exit.then])
    refine bodyPost_ret (ret_pat2 rfl _ _ w.heap.size (.string ⟨#[]⟩) (.slice none 0 0) (.slice none 0 0) (.int .i64 er) rfl rfl HQ.out) rfl ?_
    exact ⟨zeroT, er, rfl, HV, ⟨Strs.none_, ⟨fun _ => rfl, Nat.le_refl _⟩, ⟨Rk.Row.nil, fun x hx => by simp [zeroT] at hx⟩, ⟨fun _ => rfl, Nat.le_refl _⟩⟩, HBQ.out⟩
end Go.Proofs.YtoajckhfnadhjaaGreatDoor
