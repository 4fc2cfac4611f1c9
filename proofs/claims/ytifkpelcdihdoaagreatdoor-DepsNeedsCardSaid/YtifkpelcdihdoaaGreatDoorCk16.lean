/- DepsNeeds: what any names need, and what needs them; which patches they are of. -/
import Derived.Test.YtifkpelcdihdoaaGreatDoorProg
import Derived.WalkKit
import Derived.WalkSpells
import Derived.Handy
import Derived.Lib.Hide
import Derived.Shelf.Strings.BuilderK
import Derived.BigQuiet
import Derived.Deep.QuietTactic
import Derived.Lib.AtoiAllCases
import Derived.Lib.ItoaMem
import Derived.Test.YtifkpelcdihdoaaGreatDoorShelf
import Derived.Deep.RegionHeld3
import Derived.Deep.CutRange
import Derived.Lib.AppendIntMem
import Derived.BigRegion
import Derived.Deep.RegionWith
import Derived.Lib.QuietBelow
import Derived.Deep.MidRow
import Derived.Test.YtifkpelcdihdoaaGreatDoorCk15
namespace Go.Proofs.YtifkpelcdihdoaaGreatDoor
open Go.RowKit
set_option linter.unusedVariables false

theorem sm_lt {x : Ptm} (h : x.Lt) (k : x.In) : x.Sm := ⟨by have := h.few; omega, (light_fit h k).2.2, by have := h.many; omega⟩
theorem sm_key {x : Ptm} {l : List Ptm} (hl : ∀ y ∈ l, y.Lt) (hk : x.key ∈ pkeys l) (hf : OpsFew x.ops) : x.Sm := by
  obtain ⟨y, hy, e⟩ := List.mem_map.1 hk
  have h1 : y.deps = x.deps := congrArg PatK.deps e
  have h2 : okeys y.ops = okeys x.ops := congrArg PatK.ops e
  have h3 := hl y hy
  refine ⟨by rw [← h1]; have := h3.few; omega, hf, ?_⟩
  rw [← okeys_len, ← h2, okeys_len]
  have := h3.many
  omega
theorem pick_sub (l : List PatK) (ns : List (List UInt8)) : ∀ p ∈ pickD l ns, p ∈ l := fun p hp => (List.mem_filter.1 hp).1
theorem users_len (l : List PatK) (ns : List (List UInt8)) : ((l.filter (onD ns)).map PatK.name).length ≤ l.length := by
  rw [List.length_map]
  exact List.length_filter_le _ _
theorem all_len {l : List Ptm} (hl : ∀ y ∈ l, y.Lt) (hn : l.length ≤ 20) (ns : List (List UInt8)) (hf : ns.length ≤ 20) : (allD (pkeys l) ns).length ≤ 1220 := by
  have h1 := setS_len (gatherD (pkeys l) ns)
  have h2 := gather_le (pkeys l) ns l.length (fun p hp => by
    obtain ⟨x, hx, rfl⟩ := List.mem_map.1 hp
    exact (hl x hx).few) (by rw [pkeys_len]; exact hn)
  rw [List.take_of_length_le (by rw [pkeys_len]; exact Nat.le_refl _)] at h2
  unfold allD
  unfold gatherD at h1 ⊢
  rw [List.length_append] at h1
  omega
set_option maxHeartbeats 8000000 in
set_option maxRecDepth 100000 in
theorem depsneeds_any (c : DepC) (aw : AwD) (A : Option Addr) (l : List Ptm) (cap : Nat) (B : Option Addr) (ns : List (List UInt8)) (cap2 : Nat) (w : World) (hs : Pats w w.heap.size A l) (hn : l.length ≤ 9223372036854775807) (hr : Room A l.length cap) (hi : ∀ x ∈ l, x.In) (hs2 : Strs w w.heap.size B (toBs ns)) (hn2 : ns.length ≤ 9223372036854775807) (hr2 : Room B ns.length cap2) (hT : Tabs w) :
    Calls Tryz.prog 3 #[.slice A l.length cap, .slice B ns.length cap2] w fun e w' => e = .returned (.bool true) ∧ Below w.heap.size w w' := by
  have HAW := Lib.hid (fun W (hT : Tabs W) => aw W hT)
  have HC := Lib.hid c
  have CL := Lib.hid (light14_any A l cap w hs hi hn)
  have HS := Lib.hid hs
  have HI := Lib.hid hi
  have HS2 := Lib.hid hs2
  have HR := Lib.hid hr
  have HR2 := Lib.hid hr2
  have HT0 := Lib.hid hT
  clear hs hi hs2 hr hr2 hT c aw
  go_enter Tryz.func3, Tryz.ntmps3
  go_wp2_with fail
  refine CL.out.mono ?_
  rintro e w1 ⟨r, rfl, hl, hb⟩
  have HLT := Lib.hid hl.out
  have HB := Lib.hid hb
  have HT := Lib.hid (Tabs.on HT0.out hb)
  clear hl hb CL HT0
  cases r
  · go_wp2_with fail
    refine (HAW.out _ HT.out).mono ?_
    rintro e wz ⟨rfl, hb⟩
    have HF := Lib.hid (HB.out.trans (hb.mono HB.out.size))
    clear hb
    go_wp2
    go_ret
    exact ⟨rfl, HF.out⟩
  by_cases hfew : ns.length ≤ 20
  case neg =>
    have q1 : (ns.length : Int) > 20 := by omega
    go_wp2_with fail
    refine (HAW.out _ HT.out).mono ?_
    rintro e wz ⟨rfl, hb⟩
    have HF := Lib.hid (HB.out.trans (hb.mono HB.out.size))
    clear hb
    go_wp2
    go_ret
    exact ⟨rfl, HF.out⟩
  have q1 : ¬ (ns.length : Int) > 20 := by omega
  obtain ⟨hlf, hlt⟩ := HLT.out rfl
  have HLL := Lib.hid hlt
  have HG0 : Hid (Below w1.heap.size w1 w1) := Below.refl _ _
  clear HLT hlt
  go_wp2
  -- @P1
  go_loopw [5] (fun i wr => ∃ k : Nat, k ≤ ns.length ∧ i = .int .i64 (k : Int) ∧ Hid (∀ j (hj : j < ns.length), j < k → ns[j].length ≤ 100) ∧ wr = w1) (fun i _ => ns.length - (intOf i).toNat)
  case atStart => exact ⟨0, Nat.zero_le _, rfl, fun j _ h => absurd h (by omega), rfl⟩
  case round =>
    clear HG0
    obtain ⟨k, hk, rfl, hall, rfl⟩ := hrel
    by_cases hlt : k < ns.length
    · obtain ⟨g, go, rfl, hg, hc⟩ := (HS2.out.on HB.out).at_ (k := k) (by rw [toBs_len]; exact hlt)
      have e1 : (toBs ns)[k]'(by rw [toBs_len]; exact hlt) = toB ns[k] := by simp [toBs]
      rw [e1] at hc
      have hz : (toB ns[k]).size = ns[k].length := toB_size _
      by_cases hb : ns[k].length ≤ 100
      · have q2 : ¬ ((toB ns[k]).size : Int) > 100 := by omega
        have HN : Hid (∀ j (hj : j < ns.length), j < k + 1 → ns[j].length ≤ 100) := fun j hj hjk => by
          by_cases e : j = k
          · subst e; exact hb
          · exact hall.out j hj (by omega)
        clear hall hb e1 hz
        generalize toB ns[k] = s at *
        go_wp2
        go_roundw
        case rel => exact ⟨k + 1, by omega, by go_num, HN.out, trivial⟩
        case measure => simp [intOf]; omega
      · have q2 : ((toB ns[k]).size : Int) > 100 := by omega
        clear hall hb e1 hz
        generalize toB ns[k] = s at *
        go_wp2_with fail
        refine (HAW.out _ HT.out).mono ?_
        rintro e wz ⟨rfl, hb⟩
        have HF := Lib.hid (HB.out.trans (hb.mono HB.out.size))
        clear hb
        go_wp2
        go_ret
        exact ⟨rfl, HF.out⟩
    · have HNI : Hid (NamIn wr B ns cap2) := ⟨HS2.out.on HB.out, HR2.out, hfew, fun n hn => by
        obtain ⟨j, hj, rfl⟩ := List.getElem_of_mem hn
        exact hall.out j hj (by omega)⟩
      have HDI : Hid (DepIn wr A l cap) := ⟨HS.out.on HB.out, HR.out, hlf, HLL.out, HI.out, HT.out⟩
      clear hall HS2 HR2 HR HS HT
      have hln := all_len HLL.out hlf ns hfew
      obtain ⟨t, ht⟩ : ∃ t, theirD (pkeys l) ns = t := ⟨_, rfl⟩
      -- @P2
      have C1 := Lib.hid (HC.out.need A l cap B ns cap2 wr HDI.out HNI.out)
      obtain ⟨er, her⟩ : ∃ er : Int, (if t = true then (0 : Int) else 9) = er := ⟨_, rfl⟩
      rw [ht, her] at C1
      go_wp2_with fail
      refine C1.out.mono ?_
      rintro e w2 ⟨A6, c6, ln, rfl, ⟨he0, hen⟩, hs6, hb⟩
      replace HB := Lib.hid (HB.out.trans (hb.mono HB.out.size))
      replace HDI := Lib.hid (HDI.out.on hb)
      replace HNI := Lib.hid (HNI.out.on hb)
      have H6 := Lib.hid hs6
      have HE0 := Lib.hid he0
      have HEN := Lib.hid hen
      clear hb hs6 he0 hen C1
      have C2 := Lib.hid (refall_any A l cap B ns cap2 w2 HDI.out HNI.out)
      generalize hwt : allD (pkeys l) ns = want at *
      go_wp2_with fail
      refine C2.out.mono ?_
      rintro e w3 ⟨A7, c7, rfl, hA7, hs7, hb⟩
      replace HB := Lib.hid (HB.out.trans (hb.mono HB.out.size))
      replace HDI := Lib.hid (HDI.out.on hb)
      replace HNI := Lib.hid (HNI.out.on hb)
      replace H6 := Lib.hid (H6.out.on hb)
      have H7 := Lib.hid hs7
      clear hb hs7 hA7 C2
      have C3 := Lib.hid (refnames_any A l cap w3 HDI.out.pats (by omega))
      go_wp2_with fail
      refine C3.out.mono ?_
      rintro e w4 ⟨A8, c8, rfl, hA8, hs8, hb⟩
      replace HB := Lib.hid (HB.out.trans (hb.mono HB.out.size))
      replace HDI := Lib.hid (HDI.out.on hb)
      replace HNI := Lib.hid (HNI.out.on hb)
      replace H6 := Lib.hid (H6.out.on hb)
      replace H7 := Lib.hid (H7.out.on hb)
      have C4 := Lib.hid (refwithin_any B A8 ns (namesD (pkeys l)) cap2 c8 w4 HNI.out.strs hs8 (by omega) (by unfold namesD; rw [List.length_map, pkeys_len]; omega))
      rw [← their_within, ht] at C4
      clear hb hs8 hA8 C3
      generalize (namesD (pkeys l)).length = n8 at *
      go_wp2_with fail
      refine C4.out.mono ?_
      rintro e w5 ⟨rfl, hw⟩
      subst hw
      have HT := Lib.hid HDI.out.tabs
      clear C4
      have HNIL : Hid (OwnS w4 w4.heap.size (.slice none 0 0) []) := OwnS.nil _ _
      have HG0 : Hid (Below w4.heap.size w4 w4) := Below.refl _ _
      have HWT := Lib.hid hwt
      clear hwt
      -- @P3
      cases t
      case false =>
        obtain rfl : er = 9 := her.symm.trans (by simp)
        obtain rfl : ln = [] := HEN.out (by decide)
        clear HEN HE0 H6 ht her
        go_wp2
        go_loopw [9, 10, 11, 12] (fun v iv _ _ wr => ∃ (k : Nat) (v0 : Value), v0 = v ∧ k ≤ l.length ∧ iv = .int .i64 (k : Int) ∧ Hid (OwnS wr w4.heap.size v0 ((((pkeys l).take k).filter (onD ns)).map PatK.name)) ∧ Hid (Below w4.heap.size w4 wr)) (fun _ iv _ _ _ => l.length - (intOf iv).toNat)
        case atStart => exact ⟨0, _, rfl, Nat.zero_le _, rfl, HNIL.out, HG0.out⟩
        case round =>
          clear HNIL HG0
          obtain ⟨k, v, rfl, hk, rfl, HO, HG⟩ := hrel
          obtain ⟨wo, hwo⟩ : ∃ wo, wo = wr := ⟨_, rfl⟩
          subst hwo
          by_cases hlt2 : k < l.length
          · obtain ⟨b, off, rfl, hbB, hcx⟩ := (HDI.out.on HG.out).pats.1.get hlt2
            have c0 : wo.cell? ⟨b, off + k * 3, none⟩ = some (.string l[k].name) := hcx 0 _ rfl
            have c1 : wo.cell? ⟨b, off + k * 3 + 1, none⟩ = some (.slice l[k].a1 l[k].deps.length l[k].c1) := hcx 1 _ rfl
            have HST : Hid ((((pkeys l).take (k + 1)).filter (onD ns)).map PatK.name = (((pkeys l).take k).filter (onD ns)).map PatK.name ++ (if onD ns l[k].key then [l[k].key.name] else [])) := by
              show _ = _
              rw [users_take _ ns k (by rw [pkeys_len]; exact hlt2), pkeys_get l k hlt2]
            have hul : ((((pkeys l).take k).filter (onD ns)).map PatK.name).length ≤ 20 := by
              have h := users_len ((pkeys l).take k) ns
              rw [List.length_take, pkeys_len] at h
              omega
            have OX := Lib.hid ((HDI.out.on HG.out).pats.ok hlt2)
            have hxd : l[k].deps.length ≤ 60 := (HLL.out _ (List.getElem_mem hlt2)).few
            have CH := Lib.hid (refhas_l B ns cap2 wo l[k].name (HNI.out.on HG.out).strs (by omega))
            have IA := pat_indexAt (c := cap) (A := some ⟨b, off, none⟩) rfl hlt2
            have u0 : (0 : Int) ≤ (k : Int) := by omega
            have u1 : (k : Int) < (l.length : Int) := by omega
            generalize (((pkeys l).take k).filter (onD ns)).map PatK.name = us at *
            generalize l[k] = x at *
            obtain ⟨h1, hh1⟩ : ∃ h1, decide (x.name.data.toList ∈ ns) = h1 := ⟨_, rfl⟩
            rw [hh1] at CH
            have HH1 := Lib.hid hh1
            clear hcx hbB hh1
            -- @P5
            go_wp2_with fail
            refine CH.out.mono ?_
            rintro e w6 ⟨rfl, hw⟩
            subst hw
            have HGI0 : Hid (Below wo.heap.size wo wo) := Below.refl _ _
            clear CH
            go_wp2
            go_loopw [11, 12] (fun on qv wr => ∃ (q : Nat) (bb : Bool), q ≤ ns.length ∧ qv = .int .i64 (q : Int) ∧ on = .bool bb ∧ Hid (bb = (h1 || (ns.take q).any fun n => decide (n ∈ x.deps))) ∧ Hid (Below wo.heap.size wo wr)) (fun _ qv _ => ns.length - (intOf qv).toNat)
            case atStart => exact ⟨0, h1, Nat.zero_le _, rfl, rfl, (by show _ = _; simp), HGI0.out⟩
            case round =>
              clear HGI0
              obtain ⟨q, bb, hq, rfl, rfl, HBB, HGI⟩ := hrel
              obtain ⟨wi, hwi⟩ : ∃ wi, wi = wr := ⟨_, rfl⟩
              subst hwi
              by_cases hql : q < ns.length
              · obtain ⟨g, go, rfl, hg, hc2⟩ := ((HNI.out.on HG.out).on HGI.out).strs.at_ (k := q) (by rw [toBs_len]; exact hql)
                have e1 : (toBs ns)[q]'(by rw [toBs_len]; exact hql) = toB ns[q] := by simp [toBs]
                rw [e1] at hc2
                have HBN : Hid (((ns.take (q + 1)).any fun n => decide (n ∈ x.deps)) = (((ns.take q).any fun n => decide (n ∈ x.deps)) || decide (ns[q] ∈ x.deps))) := on_take ns x.deps q hql
                obtain ⟨t, ht⟩ : ∃ t, decide (ns[q] ∈ x.deps) = t := ⟨_, rfl⟩
                have CD := Lib.hid (fun W (hW : Below wi.heap.size wi W) => refhas_l x.a1 x.deps x.c1 W (toB ns[q]) ((OX.out.on HGI.out).on hW).deps (by omega))
                rw [of_toB, ht] at CD
                rw [ht] at HBN
                generalize toB ns[q] = s at *
                have C1 := Lib.hid (cell_on c1 HGI.out)
                have C2 := Lib.hid hc2
                have HDR : Hid (Below wi.heap.size wi wi.drew) := (Below.refl _ _).drew
                have v0 : (0 : Int) ≤ (q : Int) := by omega
                have v1 : (q : Int) < (ns.length : Int) := by omega
                clear e1 hc2 ht hg
                -- @P6
                go_upto_region 23 with (fail)
                cases bb
                · refine wp_region_noPanic ?_
                  refine wp_region_held_drew (S := fun W => Below wi.heap.size wi W) (by kernel_rfl) HDR.out (fun hHeld => ?_)
                  refine wpAnyH_take (i := 0) (oi := { dst := some 83, op := _, type := _, pos := _, after := _, guard := _ }) (v := .bool false) rfl (by kernel_rfl) (by kernel_rfl) (by kernel_rfl) (fun _ _ _ h => h) (Or.inl ⟨by rfl, fun w' hSw => ?_⟩) (by assumption) ?_
                  · ((try dsimp only at hSw); go_simp)
                  try simp only [Act.put, List.setIfInBounds_toArray, List.set_cons_zero, List.set_cons_succ]
                  refine wpAnyH_take (i := 1) (oi := { dst := some 84, op := _, type := _, pos := _, after := _, guard := _ }) (v := .bool false) rfl (by kernel_rfl) (by kernel_rfl) (by kernel_rfl) (fun _ _ _ h => h) (Or.inl ⟨by rfl, fun w' hSw => ?_⟩) (by assumption) ?_
                  · ((try dsimp only at hSw); go_simp)
                  try simp only [Act.put, List.setIfInBounds_toArray, List.set_cons_zero, List.set_cons_succ]
                  refine wpAnyH_take (i := 2) (oi := { dst := some 85, op := _, type := _, pos := _, after := _, guard := _ }) (v := .slice (some ⟨b, off, none⟩) l.length cap) rfl (by kernel_rfl) (by kernel_rfl) (by kernel_rfl) (fun _ _ _ h => h) (Or.inl ⟨by rfl, fun w' hSw => ?_⟩) (by assumption) ?_
                  · ((try dsimp only at hSw); go_simp)
                  try simp only [Act.put, List.setIfInBounds_toArray, List.set_cons_zero, List.set_cons_succ]
                  refine wpAnyH_take (i := 3) (oi := { dst := some 86, op := _, type := _, pos := _, after := _, guard := _ }) (v := .int .i64 (k : Int)) rfl (by kernel_rfl) (by kernel_rfl) (by kernel_rfl) (fun _ _ _ h => h) (Or.inl ⟨by rfl, fun w' hSw => ?_⟩) (by assumption) ?_
                  · ((try dsimp only at hSw); go_simp)
                  try simp only [Act.put, List.setIfInBounds_toArray, List.set_cons_zero, List.set_cons_succ]
                  refine wpAnyH_take (i := 4) (oi := { dst := some 87, op := _, type := _, pos := _, after := _, guard := _ }) (v := .pointer (some ⟨b, off + k * 3, none⟩)) rfl (by kernel_rfl) (by kernel_rfl) (by kernel_rfl) (fun _ _ _ h => h) (Or.inl ⟨by rfl, fun w' hSw => ?_⟩) (by assumption) ?_
                  · ((try dsimp only at hSw); go_simp)
                  try simp only [Act.put, List.setIfInBounds_toArray, List.set_cons_zero, List.set_cons_succ]
                  refine wpAnyH_take (i := 5) (oi := { dst := some 88, op := _, type := _, pos := _, after := _, guard := _ }) (v := .pointer (some ⟨b, off + k * 3 + 1, none⟩)) rfl (by kernel_rfl) (by kernel_rfl) (by kernel_rfl) (fun _ _ _ h => h) (Or.inl ⟨by rfl, fun w' hSw => ?_⟩) (by assumption) ?_
                  · ((try dsimp only at hSw); go_simp)
                  try simp only [Act.put, List.setIfInBounds_toArray, List.set_cons_zero, List.set_cons_succ]
                  refine wpAnyH_take (i := 6) (oi := { dst := some 89, op := _, type := _, pos := _, after := _, guard := _ }) (v := .slice x.a1 x.deps.length x.c1) rfl (by kernel_rfl) (by kernel_rfl) (by kernel_rfl) (fun _ _ _ h => h) (Or.inl ⟨by rfl, fun w' hSw => ?_⟩) (by assumption) ?_
                  · (try dsimp only at hSw)
                    have z1 := cell_on C1.out hSw
                    have z2 := cell_on C2.out hSw
                    go_simp
                  try simp only [Act.put, List.setIfInBounds_toArray, List.set_cons_zero, List.set_cons_succ]
                  refine wpAnyH_take (i := 7) (oi := { dst := some 90, op := _, type := _, pos := _, after := _, guard := _ }) (v := .slice (some ⟨g, go, none⟩) ns.length cap2) rfl (by kernel_rfl) (by kernel_rfl) (by kernel_rfl) (fun _ _ _ h => h) (Or.inl ⟨by rfl, fun w' hSw => ?_⟩) (by assumption) ?_
                  · ((try dsimp only at hSw); go_simp)
                  try simp only [Act.put, List.setIfInBounds_toArray, List.set_cons_zero, List.set_cons_succ]
                  refine wpAnyH_take (i := 8) (oi := { dst := some 91, op := _, type := _, pos := _, after := _, guard := _ }) (v := .int .i64 (q : Int)) rfl (by kernel_rfl) (by kernel_rfl) (by kernel_rfl) (fun _ _ _ h => h) (Or.inl ⟨by rfl, fun w' hSw => ?_⟩) (by assumption) ?_
                  · ((try dsimp only at hSw); go_simp)
                  try simp only [Act.put, List.setIfInBounds_toArray, List.set_cons_zero, List.set_cons_succ]
                  refine wpAnyH_take (i := 9) (oi := { dst := some 92, op := _, type := _, pos := _, after := _, guard := _ }) (v := .pointer (some ⟨g, go + q, none⟩)) rfl (by kernel_rfl) (by kernel_rfl) (by kernel_rfl) (fun _ _ _ h => h) (Or.inl ⟨by rfl, fun w' hSw => ?_⟩) (by assumption) ?_
                  · ((try dsimp only at hSw); go_simp)
                  try simp only [Act.put, List.setIfInBounds_toArray, List.set_cons_zero, List.set_cons_succ]
                  refine wpAnyH_take (i := 10) (oi := { dst := some 93, op := _, type := _, pos := _, after := _, guard := _ }) (v := .string s) rfl (by kernel_rfl) (by kernel_rfl) (by kernel_rfl) (fun _ _ _ h => h) (Or.inl ⟨by rfl, fun w' hSw => ?_⟩) (by assumption) ?_
                  · (try dsimp only at hSw)
                    have z1 := cell_on C1.out hSw
                    have z2 := cell_on C2.out hSw
                    go_simp
                  try simp only [Act.put, List.setIfInBounds_toArray, List.set_cons_zero, List.set_cons_succ]
                  have XD := Lib.hid HDR.out
                  generalize hwD : wi.drew = wD at *
                  clear hwD HDR
                  refine wpAnyH_ready (rs := [11]) (by kernel_rfl) (by simp) ?_
                  refine AllReadyH.cons rfl (fun K hK => ?_) AllReadyH.nil
                  go_simp
                  go_at_call 11
                  refine (CD.out _ XD.out).mono ?_
                  rintro e wk ⟨rfl, hw⟩
                  subst hw
                  refine hK.out _ _ XD.out (fun hHeld11 => ?_)
                  clear hK K hHeld
                  try simp only [Act.put, List.setIfInBounds_toArray, List.set_cons_zero, List.set_cons_succ]
                  refine wpAnyH_take (i := 12) (oi := { dst := some 95, op := _, type := _, pos := _, after := _, guard := _ }) (v := .bool t) rfl (by kernel_rfl) (by kernel_rfl) (by kernel_rfl) (fun _ _ _ h => h) (Or.inl ⟨by rfl, fun w' hSw => ?_⟩) (by assumption) ?_
                  · ((try dsimp only at hSw); go_simp)
                  try simp only [Act.put, List.setIfInBounds_toArray, List.set_cons_zero, List.set_cons_succ]
                  refine wpAnyH_take (i := 13) (oi := { dst := some 11, op := _, type := _, pos := _, after := _, guard := _ }) (v := .bool t) rfl (by kernel_rfl) (by kernel_rfl) (by kernel_rfl) (fun _ _ _ h => h) (Or.inl ⟨by rfl, fun w' hSw => ?_⟩) (by assumption) ?_
                  · ((try dsimp only at hSw); go_simp)
                  try simp only [Act.put, List.setIfInBounds_toArray, List.set_cons_zero, List.set_cons_succ]
                  refine wpAnyH_done (by kernel_rfl) ?_ _
                  refine NoPanic.normal ?_
                  have HGN := Lib.hid (HGI.out.trans (XD.out.mono HGI.out.size))
                  have HB2 : Hid (t = (h1 || (ns.take (q + 1)).any fun n => decide (n ∈ x.deps))) := by
                    show _ = _
                    rw [HBN.out, ← Bool.or_assoc, ← HBB.out, Bool.false_or]
                  clear HGI HBN HBB CD C1 C2
                  go_wp2
                  go_roundw
                  case rel => exact ⟨q + 1, t, by omega, by go_num, rfl, HB2.out, HGN.out⟩
                  case measure => simp [intOf]; omega
                · refine wp_region_noPanic ?_
                  refine wp_region_held_drew (S := fun W => Below wi.heap.size wi W) (by kernel_rfl) HDR.out (fun hHeld => ?_)
                  refine wpAnyH_take (i := 0) (oi := { dst := some 83, op := _, type := _, pos := _, after := _, guard := _ }) (v := .bool true) rfl (by kernel_rfl) (by kernel_rfl) (by kernel_rfl) (fun _ _ _ h => h) (Or.inl ⟨by rfl, fun w' hSw => ?_⟩) (by assumption) ?_
                  · ((try dsimp only at hSw); go_simp)
                  try simp only [Act.put, List.setIfInBounds_toArray, List.set_cons_zero, List.set_cons_succ]
                  refine wpAnyH_take (i := 1) (oi := { dst := some 84, op := _, type := _, pos := _, after := _, guard := _ }) (v := .bool true) rfl (by kernel_rfl) (by kernel_rfl) (by kernel_rfl) (fun _ _ _ h => h) (Or.inl ⟨by rfl, fun w' hSw => ?_⟩) (by assumption) ?_
                  · ((try dsimp only at hSw); go_simp)
                  try simp only [Act.put, List.setIfInBounds_toArray, List.set_cons_zero, List.set_cons_succ]
                  refine wpAnyH_take (i := 2) (oi := { dst := some 85, op := _, type := _, pos := _, after := _, guard := _ }) (v := undef) rfl (by kernel_rfl) (by kernel_rfl) (by kernel_rfl) (fun _ _ _ h => h) (Or.inr ⟨by rfl, rfl⟩) (by assumption) ?_
                  try simp only [Act.put, List.setIfInBounds_toArray, List.set_cons_zero, List.set_cons_succ]
                  refine wpAnyH_take (i := 3) (oi := { dst := some 86, op := _, type := _, pos := _, after := _, guard := _ }) (v := undef) rfl (by kernel_rfl) (by kernel_rfl) (by kernel_rfl) (fun _ _ _ h => h) (Or.inr ⟨by rfl, rfl⟩) (by assumption) ?_
                  try simp only [Act.put, List.setIfInBounds_toArray, List.set_cons_zero, List.set_cons_succ]
                  refine wpAnyH_take (i := 4) (oi := { dst := some 87, op := _, type := _, pos := _, after := _, guard := _ }) (v := undef) rfl (by kernel_rfl) (by kernel_rfl) (by kernel_rfl) (fun _ _ _ h => h) (Or.inr ⟨by rfl, rfl⟩) (by assumption) ?_
                  try simp only [Act.put, List.setIfInBounds_toArray, List.set_cons_zero, List.set_cons_succ]
                  refine wpAnyH_take (i := 5) (oi := { dst := some 88, op := _, type := _, pos := _, after := _, guard := _ }) (v := undef) rfl (by kernel_rfl) (by kernel_rfl) (by kernel_rfl) (fun _ _ _ h => h) (Or.inr ⟨by rfl, rfl⟩) (by assumption) ?_
                  try simp only [Act.put, List.setIfInBounds_toArray, List.set_cons_zero, List.set_cons_succ]
                  refine wpAnyH_take (i := 6) (oi := { dst := some 89, op := _, type := _, pos := _, after := _, guard := _ }) (v := undef) rfl (by kernel_rfl) (by kernel_rfl) (by kernel_rfl) (fun _ _ _ h => h) (Or.inr ⟨by rfl, rfl⟩) (by assumption) ?_
                  try simp only [Act.put, List.setIfInBounds_toArray, List.set_cons_zero, List.set_cons_succ]
                  refine wpAnyH_take (i := 7) (oi := { dst := some 90, op := _, type := _, pos := _, after := _, guard := _ }) (v := undef) rfl (by kernel_rfl) (by kernel_rfl) (by kernel_rfl) (fun _ _ _ h => h) (Or.inr ⟨by rfl, rfl⟩) (by assumption) ?_
                  try simp only [Act.put, List.setIfInBounds_toArray, List.set_cons_zero, List.set_cons_succ]
                  refine wpAnyH_take (i := 8) (oi := { dst := some 91, op := _, type := _, pos := _, after := _, guard := _ }) (v := undef) rfl (by kernel_rfl) (by kernel_rfl) (by kernel_rfl) (fun _ _ _ h => h) (Or.inr ⟨by rfl, rfl⟩) (by assumption) ?_
                  try simp only [Act.put, List.setIfInBounds_toArray, List.set_cons_zero, List.set_cons_succ]
                  refine wpAnyH_take (i := 9) (oi := { dst := some 92, op := _, type := _, pos := _, after := _, guard := _ }) (v := undef) rfl (by kernel_rfl) (by kernel_rfl) (by kernel_rfl) (fun _ _ _ h => h) (Or.inr ⟨by rfl, rfl⟩) (by assumption) ?_
                  try simp only [Act.put, List.setIfInBounds_toArray, List.set_cons_zero, List.set_cons_succ]
                  refine wpAnyH_take (i := 10) (oi := { dst := some 93, op := _, type := _, pos := _, after := _, guard := _ }) (v := undef) rfl (by kernel_rfl) (by kernel_rfl) (by kernel_rfl) (fun _ _ _ h => h) (Or.inr ⟨by rfl, rfl⟩) (by assumption) ?_
                  try simp only [Act.put, List.setIfInBounds_toArray, List.set_cons_zero, List.set_cons_succ]
                  refine wpAnyH_take (i := 11) (oi := { dst := some 94, op := _, type := _, pos := _, after := _, guard := _ }) (v := undef) rfl (by kernel_rfl) (by kernel_rfl) (by kernel_rfl) (fun _ _ _ h => h) (Or.inr ⟨by rfl, rfl⟩) (by assumption) ?_
                  try simp only [Act.put, List.setIfInBounds_toArray, List.set_cons_zero, List.set_cons_succ]
                  refine wpAnyH_take (i := 12) (oi := { dst := some 95, op := _, type := _, pos := _, after := _, guard := _ }) (v := .bool true) rfl (by kernel_rfl) (by kernel_rfl) (by kernel_rfl) (fun _ _ _ h => h) (Or.inl ⟨by rfl, fun w' hSw => ?_⟩) (by assumption) ?_
                  · ((try dsimp only at hSw); go_simp)
                  try simp only [Act.put, List.setIfInBounds_toArray, List.set_cons_zero, List.set_cons_succ]
                  refine wpAnyH_take (i := 13) (oi := { dst := some 11, op := _, type := _, pos := _, after := _, guard := _ }) (v := .bool true) rfl (by kernel_rfl) (by kernel_rfl) (by kernel_rfl) (fun _ _ _ h => h) (Or.inl ⟨by rfl, fun w' hSw => ?_⟩) (by assumption) ?_
                  · ((try dsimp only at hSw); go_simp)
                  try simp only [Act.put, List.setIfInBounds_toArray, List.set_cons_zero, List.set_cons_succ]
                  refine wpAnyH_done (by kernel_rfl) ?_ _
                  refine NoPanic.normal ?_
                  have HGN := Lib.hid (HGI.out.trans (HDR.out.mono HGI.out.size))
                  have HB2 : Hid (true = (h1 || (ns.take (q + 1)).any fun n => decide (n ∈ x.deps))) := by
                    show _ = _
                    rw [HBN.out, ← Bool.or_assoc, ← HBB.out, Bool.true_or]
                  clear HGI HBN HBB CD C1 C2
                  go_wp2
                  go_roundw
                  case rel => exact ⟨q + 1, true, by omega, by go_num, rfl, HB2.out, HGN.out⟩
                  case measure => simp [intOf]; omega
              · have HON : Hid (onD ns x.key = bb) := by
                  have e : ns.take q = ns := List.take_of_length_le (by omega)
                  have h := HBB.out
                  rw [e] at h
                  show _ = _
                  rw [h, ← HH1.out]
                  rfl
                have HG3 := Lib.hid (HG.out.trans (HGI.out.mono HG.out.size))
                have HO3 := Lib.hid (show OwnS wi _ v us from World.ownsRow.kept HO.out (row := none) ⟨HGI.out.os, HGI.out.tape, HGI.out.output, HGI.out.size, fun i hi _ => HGI.out.block i hi⟩ (by cases v.ownBlock <;> simp))
                have c0 := cell_on c0 HGI.out
                have hBi : w4.heap.size ≤ wi.heap.size := HG3.out.size
                rw [HON.out] at HST
                clear HBB HG HO HGI OX c1 HH1 HON
                -- @P7
                cases bb
                · go_wp2
                  go_roundw
                  case rel => exact ⟨k + 1, v, rfl, by omega, by go_num, by show OwnS _ _ _ _; rw [HST.out]; simpa using HO3.out, HG3.out⟩
                  case measure => simp [intOf]; omega
                · have HO4 := Lib.hid (show OwnS (wi.alloc (.cells #[.string x.name] 9)) w4.heap.size v us from World.ownsRow.alloc HO3.out _)
                  have hBs : w4.heap.size ≤ (wi.alloc (.cells #[.string x.name] 9)).heap.size := by simp; omega
                  have hle : us.length + [x.name.data.toList].length ≤ 1000000 := by simp; omega
                  clear HO3
                  go_wp2_with (at_builtin; refine wpList_append_strs rfl _ _ rfl w4.heap.size _ us [x.name.data.toList] rfl HO4.out (some ⟨wi.heap.size, 0, none⟩) 1 1 rfl rfl (fun e => by cases e) (strs_one wi x.name) hBs hle ?_)
                  intro v2 w8 ho2 hg2
                  have HB2 : Hid (Below w4.heap.size w4 w8) := below_append (HG3.out.alloc HG3.out.size _) HO4.out hg2 (Nat.le_refl _)
                  have HO2 : Hid (OwnS w8 w4.heap.size v2 (us ++ [x.key.name])) := ho2
                  clear ho2 hg2 HO4 HG3
                  go_wp2
                  go_roundw
                  case rel => exact ⟨k + 1, _, rfl, by omega, by go_num, by show OwnS _ _ _ _; rw [HST.out]; simpa using HO2.out, HB2.out⟩
                  case measure => simp [intOf]; omega
          · have e : (pkeys l).take k = pkeys l := List.take_of_length_le (by rw [pkeys_len]; omega)
            have h := HO.out
            rw [e] at h
            obtain ⟨A9, c9, rfl, hs9, _, _⟩ := h.strs
            have hb := HG.out
            replace HB := Lib.hid (HB.out.trans (hb.mono HB.out.size))
            replace HDI := Lib.hid (HDI.out.on hb)
            replace HNI := Lib.hid (HNI.out.on hb)
            replace H7 := Lib.hid (H7.out.on hb)
            have H9 := Lib.hid hs9
            have hul := users_len (pkeys l) ns
            rw [pkeys_len] at hul
            have HUS : Hid (usersD (pkeys l) ns = setS (((pkeys l).filter (onD ns)).map PatK.name)) := rfl
            have hsl := setS_len (((pkeys l).filter (onD ns)).map PatK.name)
            have HKM : Hid (∀ z ∈ l, z.Sm) := fun z hz => sm_lt (HLL.out z hz) (HI.out z hz)
            clear HO e h hs9 hb HG
            generalize ((pkeys l).filter (onD ns)).map PatK.name = us at *
            -- @P8
            go_wp2_with fail
            refine (HAW.out _ HDI.out.tabs).mono ?_
            rintro e w9 ⟨rfl, hb⟩
            replace HB := Lib.hid (HB.out.trans (hb.mono HB.out.size))
            replace HDI := Lib.hid (HDI.out.on hb)
            replace HNI := Lib.hid (HNI.out.on hb)
            replace H7 := Lib.hid (H7.out.on hb)
            replace H9 := Lib.hid (H9.out.on hb)
            clear hb
            have D1 := Lib.hid (HC.out.all_ A l cap B ns cap2 w9 HDI.out HNI.out)
            rw [HWT.out] at D1
            go_wp2_with fail
            refine D1.out.mono ?_
            rintro e wa ⟨A10, c10, rfl, hA10, hs10, hb⟩
            replace HB := Lib.hid (HB.out.trans (hb.mono HB.out.size))
            replace HDI := Lib.hid (HDI.out.on hb)
            replace HNI := Lib.hid (HNI.out.on hb)
            replace H7 := Lib.hid (H7.out.on hb)
            replace H9 := Lib.hid (H9.out.on hb)
            have D2 := Lib.hid (same_l A10 A7 want want c10 c7 wa hs10 H7.out (by omega) (by omega))
            rw [decide_eq_true rfl] at D2
            clear hb hA10 hs10 D1
            go_wp2_with fail
            refine D2.out.mono ?_
            rintro e wb ⟨rfl, hb⟩
            replace HB := Lib.hid (HB.out.trans (hb.mono HB.out.size))
            replace HDI := Lib.hid (HDI.out.on hb)
            replace HNI := Lib.hid (HNI.out.on hb)
            replace H7 := Lib.hid (H7.out.on hb)
            replace H9 := Lib.hid (H9.out.on hb)
            clear hb D2
            have D3 := Lib.hid (HC.out.users A l cap B ns cap2 wb HDI.out HNI.out)
            rw [HUS.out] at D3
            go_wp2_with fail
            refine D3.out.mono ?_
            rintro e wc ⟨A11, c11, rfl, hA11, hs11, hb⟩
            replace HB := Lib.hid (HB.out.trans (hb.mono HB.out.size))
            replace HDI := Lib.hid (HDI.out.on hb)
            replace HNI := Lib.hid (HNI.out.on hb)
            replace H7 := Lib.hid (H7.out.on hb)
            replace H9 := Lib.hid (H9.out.on hb)
            have H11 := Lib.hid hs11
            clear hb hA11 hs11 D3
            have D4 := Lib.hid (refset_l A9 us c9 wc H9.out (by omega))
            go_wp2_with fail
            refine D4.out.mono ?_
            rintro e wd ⟨A12, c12, rfl, hA12, hs12, hb⟩
            replace HB := Lib.hid (HB.out.trans (hb.mono HB.out.size))
            replace HDI := Lib.hid (HDI.out.on hb)
            replace HNI := Lib.hid (HNI.out.on hb)
            replace H7 := Lib.hid (H7.out.on hb)
            replace H11 := Lib.hid (H11.out.on hb)
            have D5 := Lib.hid (same_l A11 A12 (setS us) (setS us) c11 c12 wd H11.out hs12 (by omega) (by omega))
            rw [decide_eq_true rfl] at D5
            clear hb hA12 hs12 D4 H9
            go_wp2_with fail
            refine D5.out.mono ?_
            rintro e we ⟨rfl, hb⟩
            replace HB := Lib.hid (HB.out.trans (hb.mono HB.out.size))
            replace HDI := Lib.hid (HDI.out.on hb)
            replace HNI := Lib.hid (HNI.out.on hb)
            replace H7 := Lib.hid (H7.out.on hb)
            clear hb D5 H11
            -- @P9
            have D6 := Lib.hid (HC.out.pick A l cap B ns cap2 we HDI.out HNI.out)
            go_wp2_with fail
            refine D6.out.mono ?_
            rintro e wf ⟨A13, c13, l1, rfl, hk1, hr1, hp1, hf1, hb⟩
            replace HB := Lib.hid (HB.out.trans (hb.mono HB.out.size))
            replace HDI := Lib.hid (HDI.out.on hb)
            replace HNI := Lib.hid (HNI.out.on hb)
            replace H7 := Lib.hid (H7.out.on hb)
            have HP1 := Lib.hid hp1
            have HK1 := Lib.hid hk1
            have HS1 : Hid (∀ z ∈ l1, z.Sm) := fun z hz => sm_key HLL.out (pick_sub _ ns _ (hk1 ▸ List.mem_map.2 ⟨z, hz, rfl⟩)) (hf1 z hz)
            have hl1 : l1.length ≤ 20 := by
              have h := pick_few (pkeys l) ns
              rw [← hk1, pkeys_len, pkeys_len] at h
              omega
            clear hb hp1 hk1 hf1 hr1 D6
            have D7 := Lib.hid (refpick_any A l cap B ns cap2 wf HDI.out.pats HNI.out.strs (by omega) (by omega) HKM.out)
            go_wp2_with fail
            refine D7.out.mono ?_
            rintro e wg ⟨A14, c14, l2, rfl, hk2, hp2, hin2, hb⟩
            replace HB := Lib.hid (HB.out.trans (hb.mono HB.out.size))
            replace HP1 := Lib.hid (HP1.out.on hb)
            have hl2 : l2.length ≤ 20 := by
              have h := pick_few (pkeys l) ns
              rw [← hk2.out, pkeys_len, pkeys_len] at h
              omega
            have D8 := Lib.hid (refdsame_any A13 l1 c13 A14 l2 c14 wg HP1.out hp2 HS1.out (fun z hz => HKM.out z (hin2.out z hz)) (by omega) (by omega))
            rw [decide_eq_true (HK1.out.trans hk2.out.symm)] at D8
            clear hb hk2 hp2 hin2 D7
            go_wp2_with fail
            refine D8.out.mono ?_
            rintro e wh ⟨rfl, hb⟩
            have HF := Lib.hid (HB.out.trans (hb.mono HB.out.size))
            clear hb D8
            go_wp2
            go_ret
            exact ⟨rfl, HF.out⟩
      case true =>
        obtain rfl : er = 0 := her.symm.trans (by simp)
        obtain rfl : ln = want := HE0.out rfl
        clear HEN HE0 ht her
        have C5 := Lib.hid (same_l A6 A7 ln ln c6 c7 w4 H6.out H7.out (by omega) (by omega))
        rw [decide_eq_true rfl] at C5
        go_wp2_with fail
        refine C5.out.mono ?_
        rintro e w5 ⟨rfl, hb⟩
        replace HB := Lib.hid (HB.out.trans (hb.mono HB.out.size))
        replace HDI := Lib.hid (HDI.out.on hb)
        replace HNI := Lib.hid (HNI.out.on hb)
        replace H7 := Lib.hid (H7.out.on hb)
        have HT := Lib.hid HDI.out.tabs
        have HNIL : Hid (OwnS w5 w5.heap.size (.slice none 0 0) []) := OwnS.nil _ _
        have HG0 : Hid (Below w5.heap.size w5 w5) := Below.refl _ _
        clear hb H6 C5
        go_wp2
        -- @P4
        go_loopw [9, 10, 11, 12] (fun v iv _ _ wr => ∃ (k : Nat) (v0 : Value), v0 = v ∧ k ≤ l.length ∧ iv = .int .i64 (k : Int) ∧ Hid (OwnS wr w5.heap.size v0 ((((pkeys l).take k).filter (onD ns)).map PatK.name)) ∧ Hid (Below w5.heap.size w5 wr)) (fun _ iv _ _ _ => l.length - (intOf iv).toNat)
        case atStart => exact ⟨0, _, rfl, Nat.zero_le _, rfl, HNIL.out, HG0.out⟩
        case round =>
          clear HNIL HG0
          obtain ⟨k, v, rfl, hk, rfl, HO, HG⟩ := hrel
          obtain ⟨wo, hwo⟩ : ∃ wo, wo = wr := ⟨_, rfl⟩
          subst hwo
          by_cases hlt2 : k < l.length
          · obtain ⟨b, off, rfl, hbB, hcx⟩ := (HDI.out.on HG.out).pats.1.get hlt2
            have c0 : wo.cell? ⟨b, off + k * 3, none⟩ = some (.string l[k].name) := hcx 0 _ rfl
            have c1 : wo.cell? ⟨b, off + k * 3 + 1, none⟩ = some (.slice l[k].a1 l[k].deps.length l[k].c1) := hcx 1 _ rfl
            have HST : Hid ((((pkeys l).take (k + 1)).filter (onD ns)).map PatK.name = (((pkeys l).take k).filter (onD ns)).map PatK.name ++ (if onD ns l[k].key then [l[k].key.name] else [])) := by
              show _ = _
              rw [users_take _ ns k (by rw [pkeys_len]; exact hlt2), pkeys_get l k hlt2]
            have hul : ((((pkeys l).take k).filter (onD ns)).map PatK.name).length ≤ 20 := by
              have h := users_len ((pkeys l).take k) ns
              rw [List.length_take, pkeys_len] at h
              omega
            have OX := Lib.hid ((HDI.out.on HG.out).pats.ok hlt2)
            have hxd : l[k].deps.length ≤ 60 := (HLL.out _ (List.getElem_mem hlt2)).few
            have CH := Lib.hid (refhas_l B ns cap2 wo l[k].name (HNI.out.on HG.out).strs (by omega))
            have IA := pat_indexAt (c := cap) (A := some ⟨b, off, none⟩) rfl hlt2
            have u0 : (0 : Int) ≤ (k : Int) := by omega
            have u1 : (k : Int) < (l.length : Int) := by omega
            generalize (((pkeys l).take k).filter (onD ns)).map PatK.name = us at *
            generalize l[k] = x at *
            obtain ⟨h1, hh1⟩ : ∃ h1, decide (x.name.data.toList ∈ ns) = h1 := ⟨_, rfl⟩
            rw [hh1] at CH
            have HH1 := Lib.hid hh1
            clear hcx hbB hh1
            -- @P5
            go_wp2_with fail
            refine CH.out.mono ?_
            rintro e w6 ⟨rfl, hw⟩
            subst hw
            have HGI0 : Hid (Below wo.heap.size wo wo) := Below.refl _ _
            clear CH
            go_wp2
            go_loopw [11, 12] (fun on qv wr => ∃ (q : Nat) (bb : Bool), q ≤ ns.length ∧ qv = .int .i64 (q : Int) ∧ on = .bool bb ∧ Hid (bb = (h1 || (ns.take q).any fun n => decide (n ∈ x.deps))) ∧ Hid (Below wo.heap.size wo wr)) (fun _ qv _ => ns.length - (intOf qv).toNat)
            case atStart => exact ⟨0, h1, Nat.zero_le _, rfl, rfl, (by show _ = _; simp), HGI0.out⟩
            case round =>
              clear HGI0
              obtain ⟨q, bb, hq, rfl, rfl, HBB, HGI⟩ := hrel
              obtain ⟨wi, hwi⟩ : ∃ wi, wi = wr := ⟨_, rfl⟩
              subst hwi
              by_cases hql : q < ns.length
              · obtain ⟨g, go, rfl, hg, hc2⟩ := ((HNI.out.on HG.out).on HGI.out).strs.at_ (k := q) (by rw [toBs_len]; exact hql)
                have e1 : (toBs ns)[q]'(by rw [toBs_len]; exact hql) = toB ns[q] := by simp [toBs]
                rw [e1] at hc2
                have HBN : Hid (((ns.take (q + 1)).any fun n => decide (n ∈ x.deps)) = (((ns.take q).any fun n => decide (n ∈ x.deps)) || decide (ns[q] ∈ x.deps))) := on_take ns x.deps q hql
                obtain ⟨t, ht⟩ : ∃ t, decide (ns[q] ∈ x.deps) = t := ⟨_, rfl⟩
                have CD := Lib.hid (fun W (hW : Below wi.heap.size wi W) => refhas_l x.a1 x.deps x.c1 W (toB ns[q]) ((OX.out.on HGI.out).on hW).deps (by omega))
                rw [of_toB, ht] at CD
                rw [ht] at HBN
                generalize toB ns[q] = s at *
                have C1 := Lib.hid (cell_on c1 HGI.out)
                have C2 := Lib.hid hc2
                have HDR : Hid (Below wi.heap.size wi wi.drew) := (Below.refl _ _).drew
                have v0 : (0 : Int) ≤ (q : Int) := by omega
                have v1 : (q : Int) < (ns.length : Int) := by omega
                clear e1 hc2 ht hg
                -- @P6
                go_upto_region 23 with (fail)
                cases bb
                · refine wp_region_noPanic ?_
                  refine wp_region_held_drew (S := fun W => Below wi.heap.size wi W) (by kernel_rfl) HDR.out (fun hHeld => ?_)
                  refine wpAnyH_take (i := 0) (oi := { dst := some 83, op := _, type := _, pos := _, after := _, guard := _ }) (v := .bool false) rfl (by kernel_rfl) (by kernel_rfl) (by kernel_rfl) (fun _ _ _ h => h) (Or.inl ⟨by rfl, fun w' hSw => ?_⟩) (by assumption) ?_
                  · ((try dsimp only at hSw); go_simp)
                  try simp only [Act.put, List.setIfInBounds_toArray, List.set_cons_zero, List.set_cons_succ]
                  refine wpAnyH_take (i := 1) (oi := { dst := some 84, op := _, type := _, pos := _, after := _, guard := _ }) (v := .bool false) rfl (by kernel_rfl) (by kernel_rfl) (by kernel_rfl) (fun _ _ _ h => h) (Or.inl ⟨by rfl, fun w' hSw => ?_⟩) (by assumption) ?_
                  · ((try dsimp only at hSw); go_simp)
                  try simp only [Act.put, List.setIfInBounds_toArray, List.set_cons_zero, List.set_cons_succ]
                  refine wpAnyH_take (i := 2) (oi := { dst := some 85, op := _, type := _, pos := _, after := _, guard := _ }) (v := .slice (some ⟨b, off, none⟩) l.length cap) rfl (by kernel_rfl) (by kernel_rfl) (by kernel_rfl) (fun _ _ _ h => h) (Or.inl ⟨by rfl, fun w' hSw => ?_⟩) (by assumption) ?_
                  · ((try dsimp only at hSw); go_simp)
                  try simp only [Act.put, List.setIfInBounds_toArray, List.set_cons_zero, List.set_cons_succ]
                  refine wpAnyH_take (i := 3) (oi := { dst := some 86, op := _, type := _, pos := _, after := _, guard := _ }) (v := .int .i64 (k : Int)) rfl (by kernel_rfl) (by kernel_rfl) (by kernel_rfl) (fun _ _ _ h => h) (Or.inl ⟨by rfl, fun w' hSw => ?_⟩) (by assumption) ?_
                  · ((try dsimp only at hSw); go_simp)
                  try simp only [Act.put, List.setIfInBounds_toArray, List.set_cons_zero, List.set_cons_succ]
                  refine wpAnyH_take (i := 4) (oi := { dst := some 87, op := _, type := _, pos := _, after := _, guard := _ }) (v := .pointer (some ⟨b, off + k * 3, none⟩)) rfl (by kernel_rfl) (by kernel_rfl) (by kernel_rfl) (fun _ _ _ h => h) (Or.inl ⟨by rfl, fun w' hSw => ?_⟩) (by assumption) ?_
                  · ((try dsimp only at hSw); go_simp)
                  try simp only [Act.put, List.setIfInBounds_toArray, List.set_cons_zero, List.set_cons_succ]
                  refine wpAnyH_take (i := 5) (oi := { dst := some 88, op := _, type := _, pos := _, after := _, guard := _ }) (v := .pointer (some ⟨b, off + k * 3 + 1, none⟩)) rfl (by kernel_rfl) (by kernel_rfl) (by kernel_rfl) (fun _ _ _ h => h) (Or.inl ⟨by rfl, fun w' hSw => ?_⟩) (by assumption) ?_
                  · ((try dsimp only at hSw); go_simp)
                  try simp only [Act.put, List.setIfInBounds_toArray, List.set_cons_zero, List.set_cons_succ]
                  refine wpAnyH_take (i := 6) (oi := { dst := some 89, op := _, type := _, pos := _, after := _, guard := _ }) (v := .slice x.a1 x.deps.length x.c1) rfl (by kernel_rfl) (by kernel_rfl) (by kernel_rfl) (fun _ _ _ h => h) (Or.inl ⟨by rfl, fun w' hSw => ?_⟩) (by assumption) ?_
                  · (try dsimp only at hSw)
                    have z1 := cell_on C1.out hSw
                    have z2 := cell_on C2.out hSw
                    go_simp
                  try simp only [Act.put, List.setIfInBounds_toArray, List.set_cons_zero, List.set_cons_succ]
                  refine wpAnyH_take (i := 7) (oi := { dst := some 90, op := _, type := _, pos := _, after := _, guard := _ }) (v := .slice (some ⟨g, go, none⟩) ns.length cap2) rfl (by kernel_rfl) (by kernel_rfl) (by kernel_rfl) (fun _ _ _ h => h) (Or.inl ⟨by rfl, fun w' hSw => ?_⟩) (by assumption) ?_
                  · ((try dsimp only at hSw); go_simp)
                  try simp only [Act.put, List.setIfInBounds_toArray, List.set_cons_zero, List.set_cons_succ]
                  refine wpAnyH_take (i := 8) (oi := { dst := some 91, op := _, type := _, pos := _, after := _, guard := _ }) (v := .int .i64 (q : Int)) rfl (by kernel_rfl) (by kernel_rfl) (by kernel_rfl) (fun _ _ _ h => h) (Or.inl ⟨by rfl, fun w' hSw => ?_⟩) (by assumption) ?_
                  · ((try dsimp only at hSw); go_simp)
                  try simp only [Act.put, List.setIfInBounds_toArray, List.set_cons_zero, List.set_cons_succ]
                  refine wpAnyH_take (i := 9) (oi := { dst := some 92, op := _, type := _, pos := _, after := _, guard := _ }) (v := .pointer (some ⟨g, go + q, none⟩)) rfl (by kernel_rfl) (by kernel_rfl) (by kernel_rfl) (fun _ _ _ h => h) (Or.inl ⟨by rfl, fun w' hSw => ?_⟩) (by assumption) ?_
                  · ((try dsimp only at hSw); go_simp)
                  try simp only [Act.put, List.setIfInBounds_toArray, List.set_cons_zero, List.set_cons_succ]
                  refine wpAnyH_take (i := 10) (oi := { dst := some 93, op := _, type := _, pos := _, after := _, guard := _ }) (v := .string s) rfl (by kernel_rfl) (by kernel_rfl) (by kernel_rfl) (fun _ _ _ h => h) (Or.inl ⟨by rfl, fun w' hSw => ?_⟩) (by assumption) ?_
                  · (try dsimp only at hSw)
                    have z1 := cell_on C1.out hSw
                    have z2 := cell_on C2.out hSw
                    go_simp
                  try simp only [Act.put, List.setIfInBounds_toArray, List.set_cons_zero, List.set_cons_succ]
                  have XD := Lib.hid HDR.out
                  generalize hwD : wi.drew = wD at *
                  clear hwD HDR
                  refine wpAnyH_ready (rs := [11]) (by kernel_rfl) (by simp) ?_
                  refine AllReadyH.cons rfl (fun K hK => ?_) AllReadyH.nil
                  go_simp
                  go_at_call 11
                  refine (CD.out _ XD.out).mono ?_
                  rintro e wk ⟨rfl, hw⟩
                  subst hw
                  refine hK.out _ _ XD.out (fun hHeld11 => ?_)
                  clear hK K hHeld
                  try simp only [Act.put, List.setIfInBounds_toArray, List.set_cons_zero, List.set_cons_succ]
                  refine wpAnyH_take (i := 12) (oi := { dst := some 95, op := _, type := _, pos := _, after := _, guard := _ }) (v := .bool t) rfl (by kernel_rfl) (by kernel_rfl) (by kernel_rfl) (fun _ _ _ h => h) (Or.inl ⟨by rfl, fun w' hSw => ?_⟩) (by assumption) ?_
                  · ((try dsimp only at hSw); go_simp)
                  try simp only [Act.put, List.setIfInBounds_toArray, List.set_cons_zero, List.set_cons_succ]
                  refine wpAnyH_take (i := 13) (oi := { dst := some 11, op := _, type := _, pos := _, after := _, guard := _ }) (v := .bool t) rfl (by kernel_rfl) (by kernel_rfl) (by kernel_rfl) (fun _ _ _ h => h) (Or.inl ⟨by rfl, fun w' hSw => ?_⟩) (by assumption) ?_
                  · ((try dsimp only at hSw); go_simp)
                  try simp only [Act.put, List.setIfInBounds_toArray, List.set_cons_zero, List.set_cons_succ]
                  refine wpAnyH_done (by kernel_rfl) ?_ _
                  refine NoPanic.normal ?_
                  have HGN := Lib.hid (HGI.out.trans (XD.out.mono HGI.out.size))
                  have HB2 : Hid (t = (h1 || (ns.take (q + 1)).any fun n => decide (n ∈ x.deps))) := by
                    show _ = _
                    rw [HBN.out, ← Bool.or_assoc, ← HBB.out, Bool.false_or]
                  clear HGI HBN HBB CD C1 C2
                  go_wp2
                  go_roundw
                  case rel => exact ⟨q + 1, t, by omega, by go_num, rfl, HB2.out, HGN.out⟩
                  case measure => simp [intOf]; omega
                · refine wp_region_noPanic ?_
                  refine wp_region_held_drew (S := fun W => Below wi.heap.size wi W) (by kernel_rfl) HDR.out (fun hHeld => ?_)
                  refine wpAnyH_take (i := 0) (oi := { dst := some 83, op := _, type := _, pos := _, after := _, guard := _ }) (v := .bool true) rfl (by kernel_rfl) (by kernel_rfl) (by kernel_rfl) (fun _ _ _ h => h) (Or.inl ⟨by rfl, fun w' hSw => ?_⟩) (by assumption) ?_
                  · ((try dsimp only at hSw); go_simp)
                  try simp only [Act.put, List.setIfInBounds_toArray, List.set_cons_zero, List.set_cons_succ]
                  refine wpAnyH_take (i := 1) (oi := { dst := some 84, op := _, type := _, pos := _, after := _, guard := _ }) (v := .bool true) rfl (by kernel_rfl) (by kernel_rfl) (by kernel_rfl) (fun _ _ _ h => h) (Or.inl ⟨by rfl, fun w' hSw => ?_⟩) (by assumption) ?_
                  · ((try dsimp only at hSw); go_simp)
                  try simp only [Act.put, List.setIfInBounds_toArray, List.set_cons_zero, List.set_cons_succ]
                  refine wpAnyH_take (i := 2) (oi := { dst := some 85, op := _, type := _, pos := _, after := _, guard := _ }) (v := undef) rfl (by kernel_rfl) (by kernel_rfl) (by kernel_rfl) (fun _ _ _ h => h) (Or.inr ⟨by rfl, rfl⟩) (by assumption) ?_
                  try simp only [Act.put, List.setIfInBounds_toArray, List.set_cons_zero, List.set_cons_succ]
                  refine wpAnyH_take (i := 3) (oi := { dst := some 86, op := _, type := _, pos := _, after := _, guard := _ }) (v := undef) rfl (by kernel_rfl) (by kernel_rfl) (by kernel_rfl) (fun _ _ _ h => h) (Or.inr ⟨by rfl, rfl⟩) (by assumption) ?_
                  try simp only [Act.put, List.setIfInBounds_toArray, List.set_cons_zero, List.set_cons_succ]
                  refine wpAnyH_take (i := 4) (oi := { dst := some 87, op := _, type := _, pos := _, after := _, guard := _ }) (v := undef) rfl (by kernel_rfl) (by kernel_rfl) (by kernel_rfl) (fun _ _ _ h => h) (Or.inr ⟨by rfl, rfl⟩) (by assumption) ?_
                  try simp only [Act.put, List.setIfInBounds_toArray, List.set_cons_zero, List.set_cons_succ]
                  refine wpAnyH_take (i := 5) (oi := { dst := some 88, op := _, type := _, pos := _, after := _, guard := _ }) (v := undef) rfl (by kernel_rfl) (by kernel_rfl) (by kernel_rfl) (fun _ _ _ h => h) (Or.inr ⟨by rfl, rfl⟩) (by assumption) ?_
                  try simp only [Act.put, List.setIfInBounds_toArray, List.set_cons_zero, List.set_cons_succ]
                  refine wpAnyH_take (i := 6) (oi := { dst := some 89, op := _, type := _, pos := _, after := _, guard := _ }) (v := undef) rfl (by kernel_rfl) (by kernel_rfl) (by kernel_rfl) (fun _ _ _ h => h) (Or.inr ⟨by rfl, rfl⟩) (by assumption) ?_
                  try simp only [Act.put, List.setIfInBounds_toArray, List.set_cons_zero, List.set_cons_succ]
                  refine wpAnyH_take (i := 7) (oi := { dst := some 90, op := _, type := _, pos := _, after := _, guard := _ }) (v := undef) rfl (by kernel_rfl) (by kernel_rfl) (by kernel_rfl) (fun _ _ _ h => h) (Or.inr ⟨by rfl, rfl⟩) (by assumption) ?_
                  try simp only [Act.put, List.setIfInBounds_toArray, List.set_cons_zero, List.set_cons_succ]
                  refine wpAnyH_take (i := 8) (oi := { dst := some 91, op := _, type := _, pos := _, after := _, guard := _ }) (v := undef) rfl (by kernel_rfl) (by kernel_rfl) (by kernel_rfl) (fun _ _ _ h => h) (Or.inr ⟨by rfl, rfl⟩) (by assumption) ?_
                  try simp only [Act.put, List.setIfInBounds_toArray, List.set_cons_zero, List.set_cons_succ]
                  refine wpAnyH_take (i := 9) (oi := { dst := some 92, op := _, type := _, pos := _, after := _, guard := _ }) (v := undef) rfl (by kernel_rfl) (by kernel_rfl) (by kernel_rfl) (fun _ _ _ h => h) (Or.inr ⟨by rfl, rfl⟩) (by assumption) ?_
                  try simp only [Act.put, List.setIfInBounds_toArray, List.set_cons_zero, List.set_cons_succ]
                  refine wpAnyH_take (i := 10) (oi := { dst := some 93, op := _, type := _, pos := _, after := _, guard := _ }) (v := undef) rfl (by kernel_rfl) (by kernel_rfl) (by kernel_rfl) (fun _ _ _ h => h) (Or.inr ⟨by rfl, rfl⟩) (by assumption) ?_
                  try simp only [Act.put, List.setIfInBounds_toArray, List.set_cons_zero, List.set_cons_succ]
                  refine wpAnyH_take (i := 11) (oi := { dst := some 94, op := _, type := _, pos := _, after := _, guard := _ }) (v := undef) rfl (by kernel_rfl) (by kernel_rfl) (by kernel_rfl) (fun _ _ _ h => h) (Or.inr ⟨by rfl, rfl⟩) (by assumption) ?_
                  try simp only [Act.put, List.setIfInBounds_toArray, List.set_cons_zero, List.set_cons_succ]
                  refine wpAnyH_take (i := 12) (oi := { dst := some 95, op := _, type := _, pos := _, after := _, guard := _ }) (v := .bool true) rfl (by kernel_rfl) (by kernel_rfl) (by kernel_rfl) (fun _ _ _ h => h) (Or.inl ⟨by rfl, fun w' hSw => ?_⟩) (by assumption) ?_
                  · ((try dsimp only at hSw); go_simp)
                  try simp only [Act.put, List.setIfInBounds_toArray, List.set_cons_zero, List.set_cons_succ]
                  refine wpAnyH_take (i := 13) (oi := { dst := some 11, op := _, type := _, pos := _, after := _, guard := _ }) (v := .bool true) rfl (by kernel_rfl) (by kernel_rfl) (by kernel_rfl) (fun _ _ _ h => h) (Or.inl ⟨by rfl, fun w' hSw => ?_⟩) (by assumption) ?_
                  · ((try dsimp only at hSw); go_simp)
                  try simp only [Act.put, List.setIfInBounds_toArray, List.set_cons_zero, List.set_cons_succ]
                  refine wpAnyH_done (by kernel_rfl) ?_ _
                  refine NoPanic.normal ?_
                  have HGN := Lib.hid (HGI.out.trans (HDR.out.mono HGI.out.size))
                  have HB2 : Hid (true = (h1 || (ns.take (q + 1)).any fun n => decide (n ∈ x.deps))) := by
                    show _ = _
                    rw [HBN.out, ← Bool.or_assoc, ← HBB.out, Bool.true_or]
                  clear HGI HBN HBB CD C1 C2
                  go_wp2
                  go_roundw
                  case rel => exact ⟨q + 1, true, by omega, by go_num, rfl, HB2.out, HGN.out⟩
                  case measure => simp [intOf]; omega
              · have HON : Hid (onD ns x.key = bb) := by
                  have e : ns.take q = ns := List.take_of_length_le (by omega)
                  have h := HBB.out
                  rw [e] at h
                  show _ = _
                  rw [h, ← HH1.out]
                  rfl
                have HG3 := Lib.hid (HG.out.trans (HGI.out.mono HG.out.size))
                have HO3 := Lib.hid (show OwnS wi _ v us from World.ownsRow.kept HO.out (row := none) ⟨HGI.out.os, HGI.out.tape, HGI.out.output, HGI.out.size, fun i hi _ => HGI.out.block i hi⟩ (by cases v.ownBlock <;> simp))
                have c0 := cell_on c0 HGI.out
                have hBi : w5.heap.size ≤ wi.heap.size := HG3.out.size
                rw [HON.out] at HST
                clear HBB HG HO HGI OX c1 HH1 HON
                -- @P7
                cases bb
                · go_wp2
                  go_roundw
                  case rel => exact ⟨k + 1, v, rfl, by omega, by go_num, by show OwnS _ _ _ _; rw [HST.out]; simpa using HO3.out, HG3.out⟩
                  case measure => simp [intOf]; omega
                · have HO4 := Lib.hid (show OwnS (wi.alloc (.cells #[.string x.name] 9)) w5.heap.size v us from World.ownsRow.alloc HO3.out _)
                  have hBs : w5.heap.size ≤ (wi.alloc (.cells #[.string x.name] 9)).heap.size := by simp; omega
                  have hle : us.length + [x.name.data.toList].length ≤ 1000000 := by simp; omega
                  clear HO3
                  go_wp2_with (at_builtin; refine wpList_append_strs rfl _ _ rfl w5.heap.size _ us [x.name.data.toList] rfl HO4.out (some ⟨wi.heap.size, 0, none⟩) 1 1 rfl rfl (fun e => by cases e) (strs_one wi x.name) hBs hle ?_)
                  intro v2 w8 ho2 hg2
                  have HB2 : Hid (Below w5.heap.size w5 w8) := below_append (HG3.out.alloc HG3.out.size _) HO4.out hg2 (Nat.le_refl _)
                  have HO2 : Hid (OwnS w8 w5.heap.size v2 (us ++ [x.key.name])) := ho2
                  clear ho2 hg2 HO4 HG3
                  go_wp2
                  go_roundw
                  case rel => exact ⟨k + 1, _, rfl, by omega, by go_num, by show OwnS _ _ _ _; rw [HST.out]; simpa using HO2.out, HB2.out⟩
                  case measure => simp [intOf]; omega
          · have e : (pkeys l).take k = pkeys l := List.take_of_length_le (by rw [pkeys_len]; omega)
            have h := HO.out
            rw [e] at h
            obtain ⟨A9, c9, rfl, hs9, _, _⟩ := h.strs
            have hb := HG.out
            replace HB := Lib.hid (HB.out.trans (hb.mono HB.out.size))
            replace HDI := Lib.hid (HDI.out.on hb)
            replace HNI := Lib.hid (HNI.out.on hb)
            replace H7 := Lib.hid (H7.out.on hb)
            have H9 := Lib.hid hs9
            have hul := users_len (pkeys l) ns
            rw [pkeys_len] at hul
            have HUS : Hid (usersD (pkeys l) ns = setS (((pkeys l).filter (onD ns)).map PatK.name)) := rfl
            have hsl := setS_len (((pkeys l).filter (onD ns)).map PatK.name)
            have HKM : Hid (∀ z ∈ l, z.Sm) := fun z hz => sm_lt (HLL.out z hz) (HI.out z hz)
            clear HO e h hs9 hb HG
            generalize ((pkeys l).filter (onD ns)).map PatK.name = us at *
            -- @P8
            go_wp2_with fail
            refine (HAW.out _ HDI.out.tabs).mono ?_
            rintro e w9 ⟨rfl, hb⟩
            replace HB := Lib.hid (HB.out.trans (hb.mono HB.out.size))
            replace HDI := Lib.hid (HDI.out.on hb)
            replace HNI := Lib.hid (HNI.out.on hb)
            replace H7 := Lib.hid (H7.out.on hb)
            replace H9 := Lib.hid (H9.out.on hb)
            clear hb
            have D1 := Lib.hid (HC.out.all_ A l cap B ns cap2 w9 HDI.out HNI.out)
            rw [HWT.out] at D1
            go_wp2_with fail
            refine D1.out.mono ?_
            rintro e wa ⟨A10, c10, rfl, hA10, hs10, hb⟩
            replace HB := Lib.hid (HB.out.trans (hb.mono HB.out.size))
            replace HDI := Lib.hid (HDI.out.on hb)
            replace HNI := Lib.hid (HNI.out.on hb)
            replace H7 := Lib.hid (H7.out.on hb)
            replace H9 := Lib.hid (H9.out.on hb)
            have D2 := Lib.hid (same_l A10 A7 ln ln c10 c7 wa hs10 H7.out (by omega) (by omega))
            rw [decide_eq_true rfl] at D2
            clear hb hA10 hs10 D1
            go_wp2_with fail
            refine D2.out.mono ?_
            rintro e wb ⟨rfl, hb⟩
            replace HB := Lib.hid (HB.out.trans (hb.mono HB.out.size))
            replace HDI := Lib.hid (HDI.out.on hb)
            replace HNI := Lib.hid (HNI.out.on hb)
            replace H7 := Lib.hid (H7.out.on hb)
            replace H9 := Lib.hid (H9.out.on hb)
            clear hb D2
            have D3 := Lib.hid (HC.out.users A l cap B ns cap2 wb HDI.out HNI.out)
            rw [HUS.out] at D3
            go_wp2_with fail
            refine D3.out.mono ?_
            rintro e wc ⟨A11, c11, rfl, hA11, hs11, hb⟩
            replace HB := Lib.hid (HB.out.trans (hb.mono HB.out.size))
            replace HDI := Lib.hid (HDI.out.on hb)
            replace HNI := Lib.hid (HNI.out.on hb)
            replace H7 := Lib.hid (H7.out.on hb)
            replace H9 := Lib.hid (H9.out.on hb)
            have H11 := Lib.hid hs11
            clear hb hA11 hs11 D3
            have D4 := Lib.hid (refset_l A9 us c9 wc H9.out (by omega))
            go_wp2_with fail
            refine D4.out.mono ?_
            rintro e wd ⟨A12, c12, rfl, hA12, hs12, hb⟩
            replace HB := Lib.hid (HB.out.trans (hb.mono HB.out.size))
            replace HDI := Lib.hid (HDI.out.on hb)
            replace HNI := Lib.hid (HNI.out.on hb)
            replace H7 := Lib.hid (H7.out.on hb)
            replace H11 := Lib.hid (H11.out.on hb)
            have D5 := Lib.hid (same_l A11 A12 (setS us) (setS us) c11 c12 wd H11.out hs12 (by omega) (by omega))
            rw [decide_eq_true rfl] at D5
            clear hb hA12 hs12 D4 H9
            go_wp2_with fail
            refine D5.out.mono ?_
            rintro e we ⟨rfl, hb⟩
            replace HB := Lib.hid (HB.out.trans (hb.mono HB.out.size))
            replace HDI := Lib.hid (HDI.out.on hb)
            replace HNI := Lib.hid (HNI.out.on hb)
            replace H7 := Lib.hid (H7.out.on hb)
            clear hb D5 H11
            -- @P9
            have D6 := Lib.hid (HC.out.pick A l cap B ns cap2 we HDI.out HNI.out)
            go_wp2_with fail
            refine D6.out.mono ?_
            rintro e wf ⟨A13, c13, l1, rfl, hk1, hr1, hp1, hf1, hb⟩
            replace HB := Lib.hid (HB.out.trans (hb.mono HB.out.size))
            replace HDI := Lib.hid (HDI.out.on hb)
            replace HNI := Lib.hid (HNI.out.on hb)
            replace H7 := Lib.hid (H7.out.on hb)
            have HP1 := Lib.hid hp1
            have HK1 := Lib.hid hk1
            have HS1 : Hid (∀ z ∈ l1, z.Sm) := fun z hz => sm_key HLL.out (pick_sub _ ns _ (hk1 ▸ List.mem_map.2 ⟨z, hz, rfl⟩)) (hf1 z hz)
            have hl1 : l1.length ≤ 20 := by
              have h := pick_few (pkeys l) ns
              rw [← hk1, pkeys_len, pkeys_len] at h
              omega
            clear hb hp1 hk1 hf1 hr1 D6
            have D7 := Lib.hid (refpick_any A l cap B ns cap2 wf HDI.out.pats HNI.out.strs (by omega) (by omega) HKM.out)
            go_wp2_with fail
            refine D7.out.mono ?_
            rintro e wg ⟨A14, c14, l2, rfl, hk2, hp2, hin2, hb⟩
            replace HB := Lib.hid (HB.out.trans (hb.mono HB.out.size))
            replace HP1 := Lib.hid (HP1.out.on hb)
            have hl2 : l2.length ≤ 20 := by
              have h := pick_few (pkeys l) ns
              rw [← hk2.out, pkeys_len, pkeys_len] at h
              omega
            have D8 := Lib.hid (refdsame_any A13 l1 c13 A14 l2 c14 wg HP1.out hp2 HS1.out (fun z hz => HKM.out z (hin2.out z hz)) (by omega) (by omega))
            rw [decide_eq_true (HK1.out.trans hk2.out.symm)] at D8
            clear hb hk2 hp2 hin2 D7
            go_wp2_with fail
            refine D8.out.mono ?_
            rintro e wh ⟨rfl, hb⟩
            have HF := Lib.hid (HB.out.trans (hb.mono HB.out.size))
            clear hb D8
            go_wp2
            go_ret
            exact ⟨rfl, HF.out⟩
end Go.Proofs.YtifkpelcdihdoaaGreatDoor
