/- The reference of layer 14: Pick, Same. -/
import Derived.Test.YtifkpelcdihdoaaGreatDoorProg
import Derived.WalkKit
import Derived.WalkSpells
import Derived.Handy
import Derived.Lib.Hide
import Derived.Shelf.Strings.BuilderK
import Derived.BigQuiet
import Derived.Deep.QuietTactic
import Derived.Lib.AtoiAllCases
import Derived.Lib.ItoaMem
import Derived.Test.YtifkpelcdihdoaaGreatDoorShelf
import Derived.Deep.RegionHeld3
import Derived.Deep.CutRange
import Derived.Lib.AppendIntMem
import Derived.BigRegion
import Derived.Deep.RegionWith
import Derived.Lib.QuietBelow
import Derived.Deep.MidRow
import Derived.Deep.RegionHeld
import Derived.Test.YtifkpelcdihdoaaGreatDoorCk14
namespace Go.Proofs.YtifkpelcdihdoaaGreatDoor
open Go.RowKit
set_option linter.unusedVariables false

/-- What the reference's Same wants of a patch. -/
structure Ptm.Sm (x : Ptm) : Prop where
  deps : x.deps.length ≤ 900000
  ops : OpsFew x.ops
  many : x.ops.length ≤ 100000
set_option maxHeartbeats 8000000 in
set_option maxRecDepth 100000 in
theorem refdsame_any (A : Option Addr) (l : List Ptm) (c : Nat) (B : Option Addr) (m : List Ptm) (d : Nat) (w : World) (hl : Pats w w.heap.size A l) (hm : Pats w w.heap.size B m) (sl : ∀ x ∈ l, x.Sm) (sm : ∀ x ∈ m, x.Sm) (nl : l.length ≤ 100000) (nm : m.length ≤ 100000) :
    Calls Tryz.prog 15 #[.slice A l.length c, .slice B m.length d] w fun e w' => e = .returned (.bool (decide (pkeys l = pkeys m))) ∧ Below w.heap.size w w' := by
  have HL := Lib.hid hl
  have HM := Lib.hid hm
  have SL := Lib.hid sl
  have SM := Lib.hid sm
  have HG0 : Hid (Below w.heap.size w w) := Below.refl _ _
  clear hl hm sl sm
  go_enter Tryz.func15, Tryz.ntmps15
  by_cases hlen : l.length = m.length
  · have q0 : ((l.length : Int) == (m.length : Int)) = true := by rw [hlen]; simp
    have HE := Lib.hid hlen
    clear hlen
    go_wp2
    have qn : ((l.length : Int) != (m.length : Int)) = false := by rw [HE.out]; simp
    simp only [qn]
    clear qn
    go_loopw [5] (fun i wr => ∃ k : Nat, k ≤ l.length ∧ i = .int .i64 (k : Int) ∧ Hid ((pkeys l).take k = (pkeys m).take k) ∧ Hid (Below w.heap.size w wr)) (fun i _ => l.length - (intOf i).toNat)
    case atStart => exact ⟨0, Nat.zero_le _, rfl, rfl, HG0.out⟩
    case round =>
      clear HG0
      obtain ⟨k, hk, rfl, HK, HG⟩ := hrel
      by_cases hlt : k < l.length
      · have hlm : k < m.length := by have := HE.out; omega
        have hL := HL.out.on HG.out
        have hM := HM.out.on HG.out
        obtain ⟨bx, ox, rfl, _, hcx⟩ := hL.1.get hlt
        obtain ⟨by_, oy, rfl, _, hcy⟩ := hM.1.get hlm
        have OX := Lib.hid (hL.ok hlt)
        have OY := Lib.hid (hM.ok hlm)
        have SX := Lib.hid (SL.out _ (List.getElem_mem hlt))
        have SY := Lib.hid (SM.out _ (List.getElem_mem hlm))
        have HKX : Hid ((pkeys l).take (k + 1) = (pkeys l).take k ++ [l[k].key]) := by
          show _ = _
          rw [List.take_succ_eq_append_getElem (by rw [pkeys_len]; exact hlt), pkeys_get l k hlt]
        have HKY : Hid ((pkeys m).take (k + 1) = (pkeys m).take k ++ [m[k].key]) := by
          show _ = _
          rw [List.take_succ_eq_append_getElem (by rw [pkeys_len]; exact hlm), pkeys_get m k hlm]
        have HNE : Hid (l[k].key ≠ m[k].key → pkeys l ≠ pkeys m) := fun h e => by
          have h1 := HKX.out
          rw [e, HKY.out] at h1
          have h2 := List.append_cancel_left h1
          simp only [List.cons.injEq, and_true] at h2
          exact h h2.symm
        have u0 : (0 : Int) ≤ (k : Int) := by omega
        have u1 : (k : Int) < (l.length : Int) := by omega
        have u2 : (k : Int) < (m.length : Int) := by omega
        have IX := pat_indexAt (c := c) (A := some ⟨bx, ox, none⟩) rfl hlt
        have IY := pat_indexAt (c := d) (A := some ⟨by_, oy, none⟩) rfl hlm
        have RX := Lib.hid (pat_rng hcx)
        have RY := Lib.hid (pat_rng hcy)
        clear hL hM hcx hcy
        generalize l[k] = x at *
        generalize m[k] = y at *
        obtain ⟨s, hs⟩ : ∃ s, decide (x.key = y.key) = s := ⟨_, rfl⟩
        have CS := Lib.hid (fun W (hW : Below wr.heap.size wr W) => refpsame_any x y W (OX.out.on hW) (OY.out.on hW) SX.out.deps SY.out.deps SX.out.ops SY.out.ops SX.out.many SY.out.many s hs)
        unfold Ptm.val Ptm.cells at CS
        have HSS := Lib.hid hs
        have HDR : Hid (Below wr.heap.size wr wr.drew) := (Below.refl _ _).drew
        clear hs OX OY SX SY
        go_upto_region 6 with (fail)
        go_cut [26] from 17 to 26 (fun v wx => v = .bool (!s) ∧ Hid (Below wr.heap.size wr wx))
        case first =>
          refine wp_region_noPanic ?_
          refine wp_region_held_drew (S := fun W => Below wr.heap.size wr W) (by kernel_rfl) HDR.out (fun hHeld => ?_)
          refine wpAnyH_take (i := 0) (oi := { dst := some 17, op := _, type := _, pos := _, after := _, guard := _ }) (v := .slice (some ⟨bx, ox, none⟩) l.length c) rfl (by kernel_rfl) (by kernel_rfl) (by kernel_rfl) (fun _ _ _ h => h) (Or.inl ⟨by rfl, fun w' hSw => ?_⟩) (by assumption) ?_
          · ((try dsimp only at hSw); go_simp)
          try simp only [Act.put, List.setIfInBounds_toArray, List.set_cons_zero, List.set_cons_succ]
          refine wpAnyH_take (i := 1) (oi := { dst := some 18, op := _, type := _, pos := _, after := _, guard := _ }) (v := .int .i64 (k : Int)) rfl (by kernel_rfl) (by kernel_rfl) (by kernel_rfl) (fun _ _ _ h => h) (Or.inl ⟨by rfl, fun w' hSw => ?_⟩) (by assumption) ?_
          · ((try dsimp only at hSw); go_simp)
          try simp only [Act.put, List.setIfInBounds_toArray, List.set_cons_zero, List.set_cons_succ]
          refine wpAnyH_take (i := 2) (oi := { dst := some 19, op := _, type := _, pos := _, after := _, guard := _ }) (v := .pointer (some ⟨bx, ox + k * 3, none⟩)) rfl (by kernel_rfl) (by kernel_rfl) (by kernel_rfl) (fun _ _ _ h => h) (Or.inl ⟨by rfl, fun w' hSw => ?_⟩) (by assumption) ?_
          · ((try dsimp only at hSw); go_simp)
          try simp only [Act.put, List.setIfInBounds_toArray, List.set_cons_zero, List.set_cons_succ]
          refine wpAnyH_take (i := 3) (oi := { dst := some 20, op := _, type := _, pos := _, after := _, guard := _ }) (v := .agg #[.string x.name, .slice x.a1 x.deps.length x.c1, .slice x.a2 x.ops.length x.c2]) rfl (by kernel_rfl) (by kernel_rfl) (by kernel_rfl) (fun _ _ _ h => h) (yields_load_patr (by rfl) (.tmp 19) rfl bx (ox + k * 3) x rfl (fun W hW => range_on RX.out hW)) (by assumption) ?_
          try simp only [Act.put, List.setIfInBounds_toArray, List.set_cons_zero, List.set_cons_succ]
          refine wpAnyH_take (i := 4) (oi := { dst := some 21, op := _, type := _, pos := _, after := _, guard := _ }) (v := .slice (some ⟨by_, oy, none⟩) m.length d) rfl (by kernel_rfl) (by kernel_rfl) (by kernel_rfl) (fun _ _ _ h => h) (Or.inl ⟨by rfl, fun w' hSw => ?_⟩) (by assumption) ?_
          · ((try dsimp only at hSw); go_simp)
          try simp only [Act.put, List.setIfInBounds_toArray, List.set_cons_zero, List.set_cons_succ]
          refine wpAnyH_take (i := 5) (oi := { dst := some 22, op := _, type := _, pos := _, after := _, guard := _ }) (v := .int .i64 (k : Int)) rfl (by kernel_rfl) (by kernel_rfl) (by kernel_rfl) (fun _ _ _ h => h) (Or.inl ⟨by rfl, fun w' hSw => ?_⟩) (by assumption) ?_
          · ((try dsimp only at hSw); go_simp)
          try simp only [Act.put, List.setIfInBounds_toArray, List.set_cons_zero, List.set_cons_succ]
          refine wpAnyH_take (i := 6) (oi := { dst := some 23, op := _, type := _, pos := _, after := _, guard := _ }) (v := .pointer (some ⟨by_, oy + k * 3, none⟩)) rfl (by kernel_rfl) (by kernel_rfl) (by kernel_rfl) (fun _ _ _ h => h) (Or.inl ⟨by rfl, fun w' hSw => ?_⟩) (by assumption) ?_
          · ((try dsimp only at hSw); go_simp)
          try simp only [Act.put, List.setIfInBounds_toArray, List.set_cons_zero, List.set_cons_succ]
          refine wpAnyH_take (i := 7) (oi := { dst := some 24, op := _, type := _, pos := _, after := _, guard := _ }) (v := .agg #[.string y.name, .slice y.a1 y.deps.length y.c1, .slice y.a2 y.ops.length y.c2]) rfl (by kernel_rfl) (by kernel_rfl) (by kernel_rfl) (fun _ _ _ h => h) (yields_load_patr (by rfl) (.tmp 23) rfl by_ (oy + k * 3) y rfl (fun W hW => range_on RY.out hW)) (by assumption) ?_
          try simp only [Act.put, List.setIfInBounds_toArray, List.set_cons_zero, List.set_cons_succ]
          have XD := Lib.hid HDR.out
          generalize hwD : wr.drew = wD at *
          clear hwD HDR
          refine wpAnyH_ready (rs := [8]) (by kernel_rfl) (by simp) ?_
          refine AllReadyH.cons rfl (fun K hK => ?_) AllReadyH.nil
          go_simp
          go_at_call 31
          refine (CS.out _ XD.out).mono ?_
          rintro e wk ⟨rfl, hb⟩
          have XK := Lib.hid (XD.out.trans (hb.mono XD.out.size))
          clear hb
          refine hK.out _ _ XK.out (fun hHeld8 => ?_)
          clear hK K hHeld XD
          try simp only [Act.put, List.setIfInBounds_toArray, List.set_cons_zero, List.set_cons_succ]
          refine wpAnyH_take (i := 9) (oi := { dst := some 26, op := _, type := _, pos := _, after := _, guard := _ }) (v := .bool (!s)) rfl (by kernel_rfl) (by kernel_rfl) (by kernel_rfl) (fun _ _ _ h => h) (Or.inl ⟨by rfl, fun w' hSw => ?_⟩) (by assumption) ?_
          · ((try dsimp only at hSw); go_simp)
          try simp only [Act.put, List.setIfInBounds_toArray, List.set_cons_zero, List.set_cons_succ]
          refine wpAnyH_done (by kernel_rfl) ?_ _
          refine NoPanic.normal ?_
          go_wp2_with fail
          go_meet
          case rel => exact ⟨rfl, XK.out⟩
        case rest =>
          clear HDR CS RX RY IX IY
          obtain ⟨rfl, hcb⟩ := hcut
          obtain ⟨w6, hw6⟩ : ∃ w6, w6 = wc := ⟨_, rfl⟩
          subst hw6
          have HG2 := Lib.hid (HG.out.trans (hcb.out.mono HG.out.size))
          clear hcb HG
          cases s
          · have HF := Lib.hid (HNE.out (of_decide_eq_false HSS.out))
            clear HNE HSS HKX HKY HK
            go_wp2
            go_ret
            exact ⟨by rw [decide_eq_false HF.out]; rfl, HG2.out⟩
          · have HKK : Hid ((pkeys l).take (k + 1) = (pkeys m).take (k + 1)) := by
              show _ = _
              rw [HKX.out, HKY.out, HK.out, of_decide_eq_true HSS.out]
            clear HNE HSS HKX HKY HK
            go_wp2
            go_roundw
            case rel => exact ⟨k + 1, by omega, by go_num, HKK.out, HG2.out⟩
            case measure => simp [intOf]; omega
      · have HF : Hid (pkeys l = pkeys m) := by
          have h1 : (pkeys l).take k = pkeys l := List.take_of_length_le (by rw [pkeys_len]; omega)
          have h2 : (pkeys m).take k = pkeys m := List.take_of_length_le (by rw [pkeys_len]; have := HE.out; omega)
          show _ = _
          rw [← h1, ← h2]
          exact HK.out
        clear HK
        go_wp2
        go_ret
        exact ⟨by rw [decide_eq_true HF.out]; rfl, HG.out⟩
  · have q0 : ((l.length : Int) == (m.length : Int)) = false := by simp; omega
    have HF : Hid (pkeys l ≠ pkeys m) := fun e => hlen (by have h := congrArg List.length e; rw [pkeys_len, pkeys_len] at h; exact h)
    clear hlen
    go_wp2
    go_ret
    exact ⟨by rw [decide_eq_false HF.out]; rfl, HG0.out⟩
theorem pick_keep (l : List Ptm) (ns : List (List UInt8)) (k : Nat) (hk : k < l.length) : pickD (pkeys (l.take (k + 1))) ns = pickD (pkeys (l.take k)) ns ++ (if l[k].name.data.toList ∈ ns then [l[k].key] else []) := by
  rw [pkeys_take, pkeys_take, pick_take _ _ _ (by rw [pkeys_len]; exact hk), pkeys_get l k hk]
  rfl
set_option maxHeartbeats 8000000 in
set_option maxRecDepth 100000 in
theorem refpick_any (A : Option Addr) (l : List Ptm) (c : Nat) (B : Option Addr) (ns : List (List UInt8)) (d : Nat) (w : World) (hl : Pats w w.heap.size A l) (hn : Strs w w.heap.size B (toBs ns)) (nl : l.length ≤ 100000) (nn : ns.length ≤ 100000) (hof : ∀ x ∈ l, x.Sm) :
    Calls Tryz.prog 17 #[.slice A l.length c, .slice B ns.length d] w fun e w' => ∃ (A2 : Option Addr) (c2 : Nat) (o : List Ptm), e = .returned (.slice A2 o.length c2) ∧ Hid (pkeys o = pickD (pkeys l) ns) ∧ Pats w' w'.heap.size A2 o ∧ Hid (∀ x ∈ o, x ∈ l) ∧ Below w.heap.size w w' := by
  have HL := Lib.hid hl
  have HN := Lib.hid hn
  have HNIL : Hid (patR.Own w w.heap.size (.slice none 0 0) []) := Rk.Own.nil _ _
  have HG0 : Hid (Below w.heap.size w w) := Below.refl _ _
  clear hl hn
  go_enter Tryz.func17, Tryz.ntmps17
  go_wp2
  go_loopw [5, 6] (fun v i wr => ∃ (k : Nat) (A3 : Option Addr) (n3 c3 : Nat) (o : List Ptm), v = .slice A3 n3 c3 ∧ k ≤ l.length ∧ i = .int .i64 (k : Int) ∧ Hid (n3 = o.length) ∧ Hid (o.length ≤ k) ∧ Hid (pkeys o = pickD (pkeys (l.take k)) ns) ∧ Hid (∀ x ∈ o, x ∈ l) ∧ Hid (patR.Own wr w.heap.size (.slice A3 n3 c3) o) ∧ Hid (Below w.heap.size w wr)) (fun _ i _ => l.length - (intOf i).toNat)
  case atStart => exact ⟨0, none, 0, 0, [], rfl, Nat.zero_le _, rfl, rfl, Nat.zero_le _, rfl, (fun x hx => by cases hx), HNIL.out, HG0.out⟩
  case round =>
    clear HNIL HG0
    obtain ⟨k, A3, n3, c3, o, rfl, hk, rfl, HN3, HOL, HKO, HIN, HO, HG⟩ := hrel
    by_cases hlt : k < l.length
    · have hL := HL.out.on HG.out
      obtain ⟨b, off, rfl, hbB, hcx⟩ := hL.1.get hlt
      have c0 : wr.cell? ⟨b, off + k * 3, none⟩ = some (.string l[k].name) := hcx 0 _ rfl
      have HST := Lib.hid (pick_keep l ns k hlt)
      have HMEM := Lib.hid (List.getElem_mem hlt)
      have hB : w.heap.size ≤ wr.heap.size := HG.out.size
      have u0 : (0 : Int) ≤ (k : Int) := by omega
      have u1 : (k : Int) < (l.length : Int) := by omega
      have CH := Lib.hid (refhas_l B ns d wr l[k].name (HN.out.on HG.out) nn)
      have IA := pat_indexAt (c := c) (A := some ⟨b, off, none⟩) rfl hlt
      generalize l[k] = x at *
      have RX := Lib.hid (pat_rng hcx)
      clear hcx hbB hL
      by_cases he : x.name.data.toList ∈ ns
      · rw [if_pos he] at HST
        rw [decide_eq_true he] at CH
        clear he
        have HAL := Lib.hid (Rk.At.new_ (R := patR) wr x)
        have HB1 : Hid (Below wr.heap.size wr (wr.alloc (.cells (patR.enc x).toArray patR.ty))) := (Below.refl _ _).alloc (Nat.le_refl _) _
        have HO1 := Lib.hid (Rk.Own.kept HO.out HB1.out)
        have HGA := Lib.hid (HG.out.trans (HB1.out.mono HG.out.size))
        have hle : o.length + [x].length ≤ 1000000 := by have := HOL.out; simp; omega
        have hB2 : w.heap.size ≤ (wr.alloc (.cells (patR.enc x).toArray patR.ty)).heap.size := HGA.out.size
        have HM3 : Hid (n3 + 1 = o.length + [x].length) := by have := HN3.out; show _ = _; simp; omega
        go_wp2_with fail
        refine CH.out.mono ?_
        rintro e w1 ⟨rfl, hw⟩
        subst hw
        clear CH
        go_upto_region 6 with (fail)
        go_wp2_with (first | ((with_reducible refine wpList_load_patw (.tmp 23) b (off + k * 3) x RX.out ?_ ?_ ?_ ?_); rfl; rfl; rfl; simp only [Act.put, List.setIfInBounds_toArray, List.set_cons_zero, List.set_cons_succ]) | (at_builtin; refine Rk.wpList_append patR rfl _ _ rfl w.heap.size _ o [x] rfl HO1.out (some ⟨wr.heap.size, 0, none⟩) 1 1 rfl rfl (fun e => by cases e) (HAL.out.row) hB2 hle (n3 + 1) HM3.out ?_))
        intro A' c' w6 ho2 hg2
        have HB2 : Hid (Below w.heap.size w w6) := HGA.out.grown hg2 (Nat.le_trans (Nat.le_refl _) hB2) (fun g hg => (World.ownsRow.lt HO1.out g hg).1)
        have HO2 := Lib.hid ho2
        clear ho2 hg2 HO1 HO HAL HB1 HGA IA RX
        go_wp2
        go_roundw
        case rel => exact ⟨k + 1, A', _, c', o ++ [x], rfl, by omega, by go_num, by show _ = _; rw [List.length_append]; exact HM3.out, by show _ ≤ _; rw [List.length_append]; have := HOL.out; simp; omega, by show _ = _; rw [HST.out, ← HKO.out]; simp [pkeys], fun z hz => by
          rcases List.mem_append.1 hz with h | h
          · exact HIN.out z h
          · rw [List.mem_singleton.1 h]; exact HMEM.out, HO2.out, HB2.out⟩
        case measure => simp [intOf]; omega
      · rw [if_neg he, List.append_nil] at HST
        rw [decide_eq_false he] at CH
        clear he
        go_wp2_with fail
        refine CH.out.mono ?_
        rintro e w1 ⟨rfl, hw⟩
        subst hw
        clear CH IA RX
        go_wp2
        go_roundw
        case rel => exact ⟨k + 1, A3, _, c3, o, rfl, by omega, by go_num, HN3.out, by have := HOL.out; show _ ≤ _; omega, by show _ = _; rw [HST.out]; exact HKO.out, HIN.out, HO.out, HG.out⟩
        case measure => simp [intOf]; omega
    · have e : l.take k = l := List.take_of_length_le (by omega)
      have hko := HKO.out
      rw [e] at hko
      have h3 := HN3.out
      subst h3
      have hp := HO.out.parts
      have HF : Hid (∃ (A2 : Option Addr) (c2 : Nat) (o' : List Ptm), Ending.returned (.slice A3 o.length c3) = .returned (.slice A2 o'.length c2) ∧ Hid (pkeys o' = pickD (pkeys l) ns) ∧ Pats wr wr.heap.size A2 o' ∧ Hid (∀ x ∈ o', x ∈ l) ∧ Below w.heap.size w wr) :=
        ⟨A3, c3, o, rfl, hko, ⟨hp.2.1, fun x hx => (HL.out.on HG.out).2 x (HIN.out x hx)⟩, HIN.out, HG.out⟩
      clear HKO HO hko hp
      go_wp2
      go_ret
      exact HF.out
end Go.Proofs.YtifkpelcdihdoaaGreatDoor
