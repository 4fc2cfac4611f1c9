/- PatchIds: what any patch makes, and names. -/
import Derived.BigRegion
import Derived.Deep.RegionWith
import Derived.BigQuiet
import Derived.Deep.QuietTactic
import Derived.Handy
import Derived.Deep.CutRange
import Derived.Deep.RegionLaw
import Derived.Lib.QuietBelow
import Derived.Test.YtoajckhfnadhjaaGreatDoorCk16
import Derived.Test.YtoajckhfnadhjaaGreatDoorCk18
import Derived.Test.YtoajckhfnadhjaaGreatDoorCk39
namespace Go.Proofs.YtoajckhfnadhjaaGreatDoor
open Go.RowKit
open Go.Sort
set_option linter.unusedVariables false

/-- What operations name of other patches. -/
def outI (name : List UInt8) (l : List OpK) : List Ik := (l.flatMap idsO).filter fun i => decide (i.1 ≠ name)
theorem outI_step (name : List UInt8) (l : List Om) (k : Nat) (hk : k < l.length) : outI name (okeys (l.take (k + 1))) = outI name (okeys (l.take k)) ++ (idsO l[k].key).filter fun i => decide (i.1 ≠ name) := by
  unfold outI okeys
  rw [List.take_succ_eq_append_getElem hk, List.map_append, List.flatMap_append, List.filter_append]
  simp
theorem insI_few (x : Ik) : ∀ l : List Ik, (insI x l).length ≤ l.length + 1
  | [] => by simp [insI]
  | y :: r => by
    unfold insI
    have h := insI_few x r
    split
    · simp only [List.length_cons]; omega
    · split <;> simp only [List.length_cons] <;> omega
theorem setI_few (l : List Ik) : (setI l).length ≤ l.length := by
  have h : ∀ (l a : List Ik), (l.foldl (fun a x => insI x a) a).length ≤ a.length + l.length := by
    intro l
    induction l with
    | nil => intro a; simp
    | cons x l ih =>
      intro a
      have h1 := ih (insI x a)
      have h2 := insI_few x a
      simp only [List.foldl_cons, List.length_cons]
      omega
  have h2 := h l []
  simpa [setI] using h2
theorem idsO_few (o : OpK) : (idsO o).length ≤ 3 + o.dels.length := by
  unfold idsO
  have h1 := setI_few ((namedO o).filter fun k => decide (k.1 ≠ []))
  have h2 := List.length_filter_le (fun k : Ik => decide (k.1 ≠ [])) (namedO o)
  have h3 : (namedO o).length ≤ 3 + o.dels.length := by
    unfold namedO
    split
    · simp; omega
    · split
      · simp; omega
      · split
        · simp
        · split
          · simp; omega
          · simp
  omega
theorem filt_no {name : ByteArray} {ids : List Im} {q : Nat} {z : Im} (hq : q < ids.length) (hz : ids[q] = z) (h : z.p = name) : (ikeys (ids.take (q + 1))).filter (fun i => decide (i.1 ≠ name.data.toList)) = (ikeys (ids.take q)).filter fun i => decide (i.1 ≠ name.data.toList) := by
  rw [List.take_succ_eq_append_getElem hq, ikeys_app, List.filter_append, hz]
  have e : (ikeys [z]).filter (fun i => decide (i.1 ≠ name.data.toList)) = [] := by
    show ([z.key]).filter _ = []
    have h2 : z.key.1 = name.data.toList := by show z.p.data.toList = _; rw [h]
    simp [h2]
  rw [e, List.append_nil]
theorem filt_yes {name : ByteArray} {ids : List Im} {q : Nat} {z : Im} (hq : q < ids.length) (hz : ids[q] = z) (h : z.p ≠ name) : (ikeys (ids.take (q + 1))).filter (fun i => decide (i.1 ≠ name.data.toList)) = ((ikeys (ids.take q)).filter fun i => decide (i.1 ≠ name.data.toList)) ++ [z.key] := by
  rw [List.take_succ_eq_append_getElem hq, ikeys_app, List.filter_append, hz]
  have e : (ikeys [z]).filter (fun i => decide (i.1 ≠ name.data.toList)) = [z.key] := by
    show ([z.key]).filter _ = [z.key]
    have h2 : ¬ z.key.1 = name.data.toList := fun h3 => h (bytes_inj h3)
    simp [h2]
  rw [e]
set_option maxHeartbeats 8000000 in
set_option maxRecDepth 100000 in
theorem patids_any (c : PatC) (aw : AwP) (x : Ptm) (w : World) (ox : x.Ok w w.heap.size) (ix : x.In) (hT : Tabs w) (hN : Nums w) : Calls Tryz.prog 5 #[x.val] w fun e w' => e = .returned (.bool true) ∧ Below w.heap.size w w' := by
  have HAW := Lib.hid (fun W (hT : Tabs W) (hN : Nums W) => aw W hT hN)
  obtain ⟨hbx, hcx⟩ := pat_box w x
  have HX := Lib.hid hcx
  have OX := Lib.hid (ox.on hbx)
  have HT := Lib.hid (Tabs.on hT hbx)
  have HN := Lib.hid (hN.on hbx)
  have HB := Lib.hid hbx
  have IX := Lib.hid ix
  unfold Ptm.val Ptm.cells
  clear hbx hcx hT hN ox ix
  go_enter Tryz.func5, Tryz.ntmps5
  go_upto_region 1 with (fail)
  generalize (w.alloc (.cells #[.string x.name, .slice x.a1 x.deps.length x.c1, .slice x.a2 x.ops.length x.c2] 25)) = wb at *
  generalize (Value.agg #[.string x.name, .slice x.a1 x.deps.length x.c1, .slice x.a2 x.ops.length x.c2]) = vx
  have CL := Lib.hid (light13_any x wb OX.out IX.out)
  have x0 := HX.out.c0
  have x1 := HX.out.c1
  have x2 := HX.out.c2
  unfold Ptm.val Ptm.cells at CL
  go_wp2_with fail
  refine CL.out.mono ?_
  rintro e w1 ⟨rx, rfl, hlx, hb⟩
  have HLX := Lib.hid hlx.out
  replace HB := Lib.hid (HB.out.trans (hb.mono HB.out.size))
  replace HX := Lib.hid (HX.out.on hb)
  replace OX := Lib.hid (OX.out.on hb)
  replace HT := Lib.hid (Tabs.on HT.out hb)
  replace HN := Lib.hid (HN.out.on hb)
  clear hlx hb CL x0 x1 x2
  cases rx
  · go_wp2_with fail
    refine (HAW.out _ HT.out HN.out).mono ?_
    rintro e wz ⟨rfl, hb⟩
    have HF := Lib.hid (HB.out.trans (hb.mono HB.out.size))
    clear hb
    go_wp2
    go_ret
    exact ⟨rfl, HF.out⟩
  have LX := Lib.hid (HLX.out rfl)
  have hmany := LX.out.many
  have HNIL : Hid (OwnId w1 w1.heap.size (.slice none 0 0) []) := Rk.Own.nil _ _
  have HG0 : Hid (Below w1.heap.size w1 w1) := Below.refl _ _
  clear HLX
  -- @P2
  go_wp2
  go_loopw [3, 4, 5, 6] (fun lv iv _ _ wr => ∃ (k : Nat) (A3 : Option Addr) (n3 c3 : Nat) (os : List Im), lv = .slice A3 n3 c3 ∧ iv = .int .i64 (k : Int) ∧ k ≤ x.ops.length ∧ Hid (n3 = os.length) ∧ Hid (os.length ≤ 50 * k) ∧ Hid (ikeys os = outI x.name.data.toList (okeys (x.ops.take k))) ∧ Hid (∀ j (hj : j < x.ops.length), j < k → x.ops[j].first ≤ 1099511627776) ∧ Hid (OwnId wr w1.heap.size (.slice A3 n3 c3) os) ∧ Hid (Below w1.heap.size w1 wr)) (fun _ iv _ _ _ => x.ops.length - (intOf iv).toNat)
  case atStart => exact ⟨0, none, 0, 0, [], rfl, rfl, Nat.zero_le _, rfl, Nat.zero_le _, rfl, fun j _ h => absurd h (by omega), HNIL.out, HG0.out⟩
  case round =>
    clear HNIL HG0
    obtain ⟨k, A3, n3, c3, os, rfl, rfl, hk, HN3, HL3, HK, HFI, HO, HG⟩ := hrel
    have a0 := (HX.out.on HG.out).c0
    have a1 := (HX.out.on HG.out).c1
    have a2 := (HX.out.on HG.out).c2
    by_cases hlt : k < x.ops.length
    · have hO := (OX.out.on HG.out).ops
      obtain ⟨b, off, eA, hbB, hcx⟩ := hO.1.get hlt
      have HOK := Lib.hid (hO.2 _ (List.getElem_mem hlt))
      have HYL := Lib.hid (LX.out.ops _ (List.getElem_mem hlt))
      have HSTEP := Lib.hid (outI_step x.name.data.toList x.ops k hlt)
      obtain ⟨y, hy⟩ : ∃ y, x.ops[k] = y := ⟨_, rfl⟩
      have HY := Lib.hid hy
      rw [hy] at HOK hcx HSTEP HYL
      have RX := Lib.hid (op_rngp hcx)
      have c14 : wr.cell? ⟨b, off + k * 16 + 14, none⟩ = some (.int .i64 y.first) := hcx 14 _ rfl
      rw [eA] at a2
      have u0 : (0 : Int) ≤ (k : Int) := by omega
      have u1 : (k : Int) < (x.ops.length : Int) := by omega
      have CI := Lib.hid (refids_any y wr HOK.out (by have := HYL.out.few; omega))
      have HBA := Lib.hid (HB.out.trans (HG.out.mono HB.out.size))
      clear hO eA hbB hcx hy
      by_cases hf : y.first > 1099511627776
      · have HTW := Lib.hid (Tabs.on HT.out HG.out)
        have HNW := Lib.hid (HN.out.on HG.out)
        go_wp2_with fail
        refine (HAW.out _ HTW.out HNW.out).mono ?_
        rintro e wz ⟨rfl, hb⟩
        have HF := Lib.hid (HBA.out.trans (hb.mono HBA.out.size))
        clear hb
        go_wp2
        go_ret
        exact ⟨rfl, HF.out⟩
      have HFI2 : Hid (∀ j (hj : j < x.ops.length), j < k + 1 → x.ops[j].first ≤ 1099511627776) := fun j hj hjk => by
        by_cases e : j = k
        · subst e
          rw [HY.out]
          omega
        · exact HFI.out j hj (by omega)
      clear HFI
      -- @P3
      go_wp2_with ((with_reducible refine wpList_load_opr (.tmp 29) b (off + k * 16) y RX.out ?_ ?_ ?_ ?_); rfl; rfl; rfl; simp only [Act.put, List.setIfInBounds_toArray, List.set_cons_zero, List.set_cons_succ])
      refine CI.out.mono ?_
      rintro e w4 ⟨A5, n5, c5, ids, rfl, hik, hio, hb4⟩
      have HG4 := Lib.hid (HG.out.trans (hb4.mono HG.out.size))
      have HID : Hid (Ids w4 w4.heap.size A5 ids) := hio.parts.2.1
      have hn5 : n5 = ids.length := hio.parts.1
      have hidl : ids.length ≤ 43 := by
        rw [← ikeys_len, hik]
        have h1 := idsO_few y.key
        have h2 : y.key.dels.length = y.dels.length := ikeys_len _
        have h3 := HYL.out.few
        omega
      have hn5b : n5 ≤ 43 := by omega
      have HN5 := Lib.hid hn5
      have HIK := Lib.hid hik
      have HIL := Lib.hid hidl
      have HO4 := Lib.hid (Rk.Own.kept HO.out hb4)
      have HSEP : Hid (∀ b off, A5 = some ⟨b, off, none⟩ → (Value.slice A3 n3 c3).ownBlock ≠ some b) := fun b off e5 e3 => by
        have h1 := (World.ownsRow.lt HO.out b e3).2
        have h2 := hio.block b (by rw [e5]; rfl)
        omega
      generalize y.val = vy
      clear hik hio hb4 hn5 hidl CI RX HO HG c14 HOK a0 a1 a2
      go_wp2
      go_loopw [3, 6] (fun lv qv wi => ∃ (q : Nat) (A6 : Option Addr) (n6 c6 : Nat) (oq : List Im), lv = .slice A6 n6 c6 ∧ qv = .int .i64 (q : Int) ∧ q ≤ n5 ∧ Hid (n6 = oq.length) ∧ Hid (oq.length ≤ os.length + q) ∧ Hid (ikeys oq = ikeys os ++ (ikeys (ids.take q)).filter fun i => decide (i.1 ≠ x.name.data.toList)) ∧ Hid (OwnId wi w1.heap.size (.slice A6 n6 c6) oq) ∧ Hid (Ids wi wi.heap.size A5 ids) ∧ Hid (∀ b off, A5 = some ⟨b, off, none⟩ → (Value.slice A6 n6 c6).ownBlock ≠ some b) ∧ Hid (Below w1.heap.size w1 wi)) (fun _ qv _ => n5 - (intOf qv).toNat)
      case atStart => exact ⟨0, A3, n3, c3, os, rfl, rfl, Nat.zero_le _, HN3.out, Nat.le_refl _, (by show _ = _; rw [List.take_zero]; simp [ikeys]), HO4.out, HID.out, HSEP.out, HG4.out⟩
      case round =>
        clear HO4 HID HSEP HG4
        obtain ⟨q, A6, n6, c6, oq, rfl, rfl, hq, HN6, HL6, HKQ, HO, HID, HSEP, HG⟩ := hrel
        by_cases hql : q < n5
        · have hqi : q < ids.length := by have h := HN5.out; omega
          obtain ⟨g, go, eg, hg, c0, c1⟩ := ids_get HID.out hqi
          obtain ⟨z, hz⟩ : ∃ z, ids[q] = z := ⟨_, rfl⟩
          rw [hz] at c0 c1
          have HZ := Lib.hid hz
          subst eg
          have v0 : (0 : Int) ≤ (q : Int) := by omega
          have v1 : (q : Int) < (n5 : Int) := by omega
          have HPW := Lib.hid (HX.out.on HG.out)
          obtain ⟨ne, hne⟩ : ∃ b, (!decide (z.p = x.name)) = b := ⟨_, rfl⟩
          have HNE := Lib.hid hne
          clear hz
          go_upto_region 13 with (fail)
          go_cut [45] from 38 to 45 (fun v wx => v = .bool ne ∧ Hid (Below wr.heap.size wr wx))
          case first =>
            have p0 := fun d os => cell_regrown HPW.out.c0 d os
            by_cases he : z.p = x.name
            · rw [decide_eq_true he, Bool.not_true] at hne
              subst hne
              rw [he] at c0
              have i0 := fun d os => cell_regrown c0 d os
              have q0 := str_eqb x.name
              clear he c0 c1 HNE
              refine wp_region_quiet_below (by kernel_rfl) (by kernel_rfl) ?_
              repeat (go_big_quiet_step (fail))
              refine wpQuiet_nil ?_
              intro _ hw'
              obtain ⟨⟨dq, osq⟩, hw''⟩ := hw'
              subst hw''
              have HF2 := Lib.hid (below_regrown wr dq osq)
              go_wp2_with fail
              go_meet
              case rel => exact ⟨rfl, HF2.out⟩
            · rw [decide_eq_false he, Bool.not_false] at hne
              subst hne
              have i0 := fun d os => cell_regrown c0 d os
              have q0 := str_ne he
              clear he c0 c1 HNE
              refine wp_region_quiet_below (by kernel_rfl) (by kernel_rfl) ?_
              repeat (go_big_quiet_step (fail))
              refine wpQuiet_nil ?_
              intro _ hw'
              obtain ⟨⟨dq, osq⟩, hw''⟩ := hw'
              subst hw''
              have HF2 := Lib.hid (below_regrown wr dq osq)
              go_wp2_with fail
              go_meet
              case rel => exact ⟨rfl, HF2.out⟩
          case rest =>
            obtain ⟨rfl, hcb⟩ := hcut
            obtain ⟨w6, hw6⟩ : ∃ w6, w6 = wc := ⟨_, rfl⟩
            subst hw6
            have hb := hcb.out
            replace HO := Lib.hid (Rk.Own.kept HO.out hb)
            replace HID := Lib.hid (HID.out.on hb)
            replace HG := Lib.hid (HG.out.trans (hb.mono HG.out.size))
            have hgl : g < w6.heap.size := Nat.lt_of_lt_of_le hg hb.size
            have d0 := cell_on c0 hb
            have d1 := cell_on c1 hb
            clear hb hcb c0 c1 hne hg HPW
            cases ne
            · have he : z.p = x.name := by have h := HNE.out; simpa using h
              have HKQ2 : Hid (ikeys oq = ikeys os ++ (ikeys (ids.take (q + 1))).filter fun i => decide (i.1 ≠ x.name.data.toList)) := by show _ = _; rw [HKQ.out, filt_no hqi HZ.out he]
              clear HKQ he d0 d1
              go_wp2
              go_roundw
              case rel => exact ⟨q + 1, A6, n6, c6, oq, rfl, by go_num, by omega, HN6.out, (by show _ ≤ _; have h := HL6.out; omega), HKQ2.out, HO.out, HID.out, HSEP.out, HG.out⟩
              case measure => simp [intOf]; omega
            · have he : z.p ≠ x.name := by have h := HNE.out; simpa using h
              have HKQ2 : Hid (ikeys (oq ++ [z]) = ikeys os ++ (ikeys (ids.take (q + 1))).filter fun i => decide (i.1 ≠ x.name.data.toList)) := by show _ = _; rw [ikeys_app, HKQ.out, filt_yes hqi HZ.out he, List.append_assoc]; rfl
              have hal : Below w6.heap.size w6 (w6.alloc (.cells #[.string z.p, .int .i64 z.n] 40)) := (Below.refl _ _).alloc (Nat.le_refl _) _
              have HA := Lib.hid (Rk.Own.kept HO.out hal)
              have HIA := Lib.hid (HID.out.on hal)
              have HR := Lib.hid (id_row w6 z)
              have HS1 := Lib.hid (Nat.le_trans HG.out.size hal.size)
              have HGa := Lib.hid (HG.out.trans (hal.mono HG.out.size))
              obtain ⟨M, hM⟩ : ∃ M, M = oq.length + [z].length := ⟨_, rfl⟩
              have HM := Lib.hid hM
              have hle : oq.length + [z].length ≤ 1000000 := by have h := HL6.out; have h2 := HL3.out; simp only [List.length_cons, List.length_nil]; omega
              clear hal hM HKQ he HO HID
              go_wp2_with (at_builtin; refine idR.wpList_append_at rfl _ _ rfl w1.heap.size (.slice A6 n6 c6) oq [z] rfl HA.out (some ⟨w6.heap.size, 0, none⟩) 1 1 rfl rfl (fun e => by cases e) HR.out HS1.out hle M HM.out ?_)
              intro A9 c9 w9 ho9 hg9 hb9
              have HO9 := Lib.hid ho9
              have HI9 : Hid (Ids w9 w9.heap.size (some ⟨g, go, none⟩) ids) := (HIA.out.grown hg9 (fun b off e => HSEP.out b off e)).more hg9.size
              have HG9 := Lib.hid (Rk.Own.app HGa.out HA.out hg9 (Nat.le_refl _))
              have HS9 : Hid (∀ b off, (some ⟨g, go, none⟩ : Option Addr) = some ⟨b, off, none⟩ → (Value.slice A9 M c9).ownBlock ≠ some b) := fun b off e e9 => by
                rcases hb9 with h | h
                · exact HSEP.out b off e (by rw [← h]; exact e9)
                · rw [h] at e9
                  simp only [Option.some.injEq, Addr.mk.injEq, and_true] at e e9
                  have h2 : (w6.alloc (.cells #[.string z.p, .int .i64 z.n] 40)).heap.size = w6.heap.size + 1 := by simp
                  omega
              have HM9 : Hid (M = (oq ++ [z]).length) := by show _ = _; rw [List.length_append, HM.out]
              clear ho9 hg9 hb9 HA HIA HR HS1 HGa HSEP hle d0 d1
              go_wp2
              go_roundw
              case rel => exact ⟨q + 1, A9, M, c9, oq ++ [z], rfl, by go_num, by omega, HM9.out, (by show _ ≤ _; have h := HL6.out; simp only [List.length_append, List.length_cons, List.length_nil]; omega), HKQ2.out, HO9.out, HI9.out, HS9.out, HG9.out⟩
              case measure => simp [intOf]; omega
        · have HKF : Hid (ikeys oq = outI x.name.data.toList (okeys (x.ops.take (k + 1)))) := by
            show _ = _
            have e : ids.take q = ids := List.take_of_length_le (by have h := HN5.out; omega)
            rw [HSTEP.out, HKQ.out, e, HK.out, ← HIK.out]
          have HLF : Hid (oq.length ≤ 50 * (k + 1)) := by show _ ≤ _; have h := HL6.out; have h2 := HL3.out; omega
          clear HKQ HID HSEP
          go_wp2
          go_roundw
          case rel => exact ⟨k + 1, A6, n6, c6, oq, rfl, by go_num, by omega, HN6.out, HLF.out, HKF.out, HFI2.out, HO.out, HG.out⟩
          case measure => simp [intOf]; omega
    · have hke : k = x.ops.length := by omega
      have HKE : Hid (setI (ikeys os) = namedP x.key) := by
        show _ = _
        rw [HK.out, hke, List.take_length]
        rfl
      have HFA : Hid (∀ o ∈ x.ops, o.first ≤ 1099511627776) := fun o ho => by
        obtain ⟨j, hj, rfl⟩ := List.getElem_of_mem ho
        exact HFI.out j hj (by omega)
      have HOS : Hid (Ids wr wr.heap.size A3 os) := HO.out.parts.2.1
      have hosl : os.length ≤ 1500 := by have h := HL3.out; omega
      obtain ⟨hsz, hmd, hfw⟩ := light_fit LX.out IX.out
      have HMD := Lib.hid hmd
      have HTW := Lib.hid (Tabs.on HT.out HG.out)
      have HNW := Lib.hid (HN.out.on HG.out)
      replace HX := Lib.hid (HX.out.on HG.out)
      replace OX := Lib.hid (OX.out.on HG.out)
      replace HB := Lib.hid (HB.out.trans (HG.out.mono HB.out.size))
      have HOL := Lib.hid hosl
      clear HK HFI HO HG a0 a1 hsz hmd hfw HT HN hosl
      have HDR : Hid (Below wr.heap.size wr wr.drew) := (Below.refl _ _).drew
      have C3 := Lib.hid (fun W (hW : Below wr.heap.size wr W) => c.made x W (OX.out.on hW) LX.out IX.out HFA.out)
      have C10 := Lib.hid (fun W (hW : Below wr.heap.size wr W) => c.named x W (OX.out.on hW) LX.out IX.out)
      unfold Ptm.val Ptm.cells at C3 C10
      go_upto_region 15 with (fail)
      clear a2
      refine wp_region_noPanic ?_
      refine wp_region_held_drew (S := fun W => Below wr.heap.size wr W) (by kernel_rfl) HDR.out (fun hHeld => ?_)
      have XD := Lib.hid HDR.out
      generalize hwD : wr.drew = wD at *
      clear hwD HDR
      refine wpAnyH_ready (rs := [0]) (by kernel_rfl) (by simp) ?_
      refine AllReadyH.cons rfl (fun K hK => ?_) AllReadyH.nil
      go_simp
      go_at_call 7
      refine (HAW.out _ (Tabs.on HTW.out XD.out) (HNW.out.on XD.out)).mono ?_
      rintro e v0 ⟨rfl, hb⟩
      have X0 := Lib.hid (XD.out.trans (hb.mono XD.out.size))
      clear hb
      refine hK.out _ _ X0.out (fun hHeld0 => ?_)
      clear hK K hHeld
      try simp only [Act.put, List.setIfInBounds_toArray, List.set_cons_zero, List.set_cons_succ]
      refine wpAnyH_take (i := 1) (oi := { dst := some 54, op := _, type := _, pos := _, after := _, guard := _ }) (v := .bool true) rfl (by kernel_rfl) (by kernel_rfl) (by kernel_rfl) (fun _ _ _ h => h) (Or.inl ⟨by rfl, fun w' hSw => ?_⟩) (by assumption) ?_
      · dsimp only at hSw
        have x0 := (HX.out.on hSw).c0
        have x1 := (HX.out.on hSw).c1
        have x2 := (HX.out.on hSw).c2
        go_simp
      try simp only [Act.put, List.setIfInBounds_toArray, List.set_cons_zero, List.set_cons_succ]
      refine wpAnyH_take (i := 2) (oi := { dst := some 55, op := _, type := _, pos := _, after := _, guard := _ }) (v := .agg #[.string x.name, .slice x.a1 x.deps.length x.c1, .slice x.a2 x.ops.length x.c2]) rfl (by kernel_rfl) (by kernel_rfl) (by kernel_rfl) (fun _ _ _ h => h) (Or.inl ⟨by rfl, fun w' hSw => ?_⟩) (by assumption) ?_
      · dsimp only at hSw
        have x0 := (HX.out.on hSw).c0
        have x1 := (HX.out.on hSw).c1
        have x2 := (HX.out.on hSw).c2
        go_simp
      try simp only [Act.put, List.setIfInBounds_toArray, List.set_cons_zero, List.set_cons_succ]
      refine wpAnyH_take (i := 4) (oi := { dst := some 57, op := _, type := _, pos := _, after := _, guard := _ }) (v := .agg #[.string x.name, .slice x.a1 x.deps.length x.c1, .slice x.a2 x.ops.length x.c2]) rfl (by kernel_rfl) (by kernel_rfl) (by kernel_rfl) (fun _ _ _ h => h) (Or.inl ⟨by rfl, fun w' hSw => ?_⟩) (by assumption) ?_
      · dsimp only at hSw
        have x0 := (HX.out.on hSw).c0
        have x1 := (HX.out.on hSw).c1
        have x2 := (HX.out.on hSw).c2
        go_simp
      try simp only [Act.put, List.setIfInBounds_toArray, List.set_cons_zero, List.set_cons_succ]
      refine wpAnyH_ready (rs := [3]) (by kernel_rfl) (by simp) ?_
      refine AllReadyH.cons rfl (fun K hK => ?_) AllReadyH.nil
      go_simp
      go_at_call 18
      refine (C3.out _ X0.out).mono ?_
      rintro e v3 ⟨A7, n7, c7, l7, rfl, hk7, ho7, hb⟩
      have X3 := Lib.hid (X0.out.trans (hb.mono X0.out.size))
      have HI7 : Hid (Ids v3 v3.heap.size A7 l7) := ho7.parts.2.1
      have HN7 : Hid (n7 = l7.length) := ho7.parts.1
      have HK7 := Lib.hid hk7
      clear hk7 ho7
      clear hb
      refine hK.out _ _ X3.out (fun hHeld3 => ?_)
      clear hK K hHeld0
      try simp only [Act.put, List.setIfInBounds_toArray, List.set_cons_zero, List.set_cons_succ]
      refine wpAnyH_ready (rs := [5]) (by kernel_rfl) (by simp) ?_
      refine AllReadyH.cons rfl (fun K hK => ?_) AllReadyH.nil
      go_simp
      go_at_call 19
      refine (refpmade_any x.name x.a1 x.deps.length x.c1 x.a2 x.ops x.c2 v3 (OX.out.on X3.out).ops (by omega) (fun o ho => ⟨by have := lt_lines (LX.out.ops o ho); omega, HFA.out o ho⟩) HMD.out).mono ?_
      rintro e v5 ⟨A8, n8, c8, l8, rfl, hk8, ho8, hb⟩
      have X5 := Lib.hid (X3.out.trans (hb.mono X3.out.size))
      have HI8 : Hid (Ids v5 v5.heap.size A8 l8) := ho8.parts.2.1
      have HN8 : Hid (n8 = l8.length) := ho8.parts.1
      have HK8 := Lib.hid hk8
      replace HI7 := Lib.hid (HI7.out.on hb)
      clear hk8 ho8
      clear hb
      refine hK.out _ _ X5.out (fun hHeld5 => ?_)
      clear hK K hHeld3
      try simp only [Act.put, List.setIfInBounds_toArray, List.set_cons_zero, List.set_cons_succ]
      have C6 : Hid (Calls Tryz.prog 17 #[.slice A7 n7 c7, .slice A8 n8 c8] v5 fun e w' => e = .returned (.bool true) ∧ Below v5.heap.size v5 w') := by
        have e7 : l7.length ≤ 900000 := by rw [← ikeys_len, HK7.out]; exact HMD.out
        have e8 : l8.length ≤ 900000 := by rw [← ikeys_len, HK8.out]; exact HMD.out
        have h := refisamek_any A7 A8 l7 l8 c7 c8 v5 HI7.out HI8.out e7 e8 true (decide_eq_true (by rw [HK7.out, HK8.out]))
        rw [← HN7.out, ← HN8.out] at h
        exact h
      refine wpAnyH_ready (rs := [6]) (by kernel_rfl) (by simp) ?_
      refine AllReadyH.cons rfl (fun K hK => ?_) AllReadyH.nil
      go_simp
      go_at_call 17
      refine (C6.out).mono ?_
      rintro e v6 ⟨rfl, hb⟩
      have X6 := Lib.hid (X5.out.trans (hb.mono X5.out.size))
      clear hb
      refine hK.out _ _ X6.out (fun hHeld6 => ?_)
      clear hK K hHeld5
      try simp only [Act.put, List.setIfInBounds_toArray, List.set_cons_zero, List.set_cons_succ]
      clear C6 HI7 HI8 HN7 HN8 HK7 HK8
      refine wpAnyH_take (i := 7) (oi := { dst := some 60, op := _, type := _, pos := _, after := _, guard := _ }) (v := .bool true) rfl (by kernel_rfl) (by kernel_rfl) (by kernel_rfl) (fun _ _ _ h => h) (Or.inl ⟨by rfl, fun w' hSw => ?_⟩) (by assumption) ?_
      · dsimp only at hSw
        have x0 := (HX.out.on hSw).c0
        have x1 := (HX.out.on hSw).c1
        have x2 := (HX.out.on hSw).c2
        go_simp
      try simp only [Act.put, List.setIfInBounds_toArray, List.set_cons_zero, List.set_cons_succ]
      refine wpAnyH_take (i := 8) (oi := { dst := some 61, op := _, type := _, pos := _, after := _, guard := _ }) (v := .bool true) rfl (by kernel_rfl) (by kernel_rfl) (by kernel_rfl) (fun _ _ _ h => h) (Or.inl ⟨by rfl, fun w' hSw => ?_⟩) (by assumption) ?_
      · dsimp only at hSw
        have x0 := (HX.out.on hSw).c0
        have x1 := (HX.out.on hSw).c1
        have x2 := (HX.out.on hSw).c2
        go_simp
      try simp only [Act.put, List.setIfInBounds_toArray, List.set_cons_zero, List.set_cons_succ]
      refine wpAnyH_take (i := 9) (oi := { dst := some 62, op := _, type := _, pos := _, after := _, guard := _ }) (v := .agg #[.string x.name, .slice x.a1 x.deps.length x.c1, .slice x.a2 x.ops.length x.c2]) rfl (by kernel_rfl) (by kernel_rfl) (by kernel_rfl) (fun _ _ _ h => h) (Or.inl ⟨by rfl, fun w' hSw => ?_⟩) (by assumption) ?_
      · dsimp only at hSw
        have x0 := (HX.out.on hSw).c0
        have x1 := (HX.out.on hSw).c1
        have x2 := (HX.out.on hSw).c2
        go_simp
      try simp only [Act.put, List.setIfInBounds_toArray, List.set_cons_zero, List.set_cons_succ]
      refine wpAnyH_take (i := 11) (oi := { dst := some 64, op := _, type := _, pos := _, after := _, guard := _ }) (v := .slice A3 n3 c3) rfl (by kernel_rfl) (by kernel_rfl) (by kernel_rfl) (fun _ _ _ h => h) (Or.inl ⟨by rfl, fun w' hSw => ?_⟩) (by assumption) ?_
      · dsimp only at hSw
        have x0 := (HX.out.on hSw).c0
        have x1 := (HX.out.on hSw).c1
        have x2 := (HX.out.on hSw).c2
        go_simp
      try simp only [Act.put, List.setIfInBounds_toArray, List.set_cons_zero, List.set_cons_succ]
      refine wpAnyH_ready (rs := [10]) (by kernel_rfl) (by simp) ?_
      refine AllReadyH.cons rfl (fun K hK => ?_) AllReadyH.nil
      go_simp
      go_at_call 20
      refine (C10.out _ X6.out).mono ?_
      rintro e v10 ⟨A9, n9, c9, l9, rfl, hk9, ho9, hb⟩
      have X10 := Lib.hid (X6.out.trans (hb.mono X6.out.size))
      have HI9 : Hid (Ids v10 v10.heap.size A9 l9) := ho9.parts.2.1
      have HN9 : Hid (n9 = l9.length) := ho9.parts.1
      have HK9 := Lib.hid hk9
      clear hk9 ho9
      clear hb
      refine hK.out _ _ X10.out (fun hHeld10 => ?_)
      clear hK K hHeld6
      try simp only [Act.put, List.setIfInBounds_toArray, List.set_cons_zero, List.set_cons_succ]
      have C12 : Hid (Calls Tryz.prog 21 #[.slice A3 n3 c3] v10 (IdsLeft v10 (namedP x.key))) := by
        have h := refiset_any A3 os c3 v10 (HOS.out.on X10.out) (by have := HOL.out; omega)
        rw [← HN3.out, HKE.out] at h
        exact h
      refine wpAnyH_ready (rs := [12]) (by kernel_rfl) (by simp) ?_
      refine AllReadyH.cons rfl (fun K hK => ?_) AllReadyH.nil
      go_simp
      go_at_call 21
      refine (C12.out).mono ?_
      rintro e v12 ⟨A8, n8, c8, l8, rfl, hk8, ho8, hb⟩
      have X12 := Lib.hid (X10.out.trans (hb.mono X10.out.size))
      have HI8 : Hid (Ids v12 v12.heap.size A8 l8) := ho8.parts.2.1
      have HN8 : Hid (n8 = l8.length) := ho8.parts.1
      have HK8 := Lib.hid hk8
      replace HI9 := Lib.hid (HI9.out.on hb)
      clear hk8 ho8
      clear hb
      refine hK.out _ _ X12.out (fun hHeld12 => ?_)
      clear hK K hHeld10
      try simp only [Act.put, List.setIfInBounds_toArray, List.set_cons_zero, List.set_cons_succ]
      have C13 : Hid (Calls Tryz.prog 17 #[.slice A9 n9 c9, .slice A8 n8 c8] v12 fun e w' => e = .returned (.bool true) ∧ Below v12.heap.size v12 w') := by
        have e0 : (namedP x.key).length ≤ 1500 := by rw [← HKE.out]; have h1 := setI_few (ikeys os); have h2 := HOL.out; rw [ikeys_len] at h1; omega
        have e9 : l9.length ≤ 900000 := by rw [← ikeys_len, HK9.out]; omega
        have e8 : l8.length ≤ 900000 := by rw [← ikeys_len, HK8.out]; omega
        have h := refisamek_any A9 A8 l9 l8 c9 c8 v12 HI9.out HI8.out e9 e8 true (decide_eq_true (by rw [HK9.out, HK8.out]))
        rw [← HN9.out, ← HN8.out] at h
        exact h
      refine wpAnyH_ready (rs := [13]) (by kernel_rfl) (by simp) ?_
      refine AllReadyH.cons rfl (fun K hK => ?_) AllReadyH.nil
      go_simp
      go_at_call 17
      refine (C13.out).mono ?_
      rintro e v13 ⟨rfl, hb⟩
      have X13 := Lib.hid (X12.out.trans (hb.mono X12.out.size))
      clear hb
      refine hK.out _ _ X13.out (fun hHeld13 => ?_)
      clear hK K hHeld12
      try simp only [Act.put, List.setIfInBounds_toArray, List.set_cons_zero, List.set_cons_succ]
      refine wpAnyH_take (i := 14) (oi := { dst := some 67, op := _, type := _, pos := _, after := _, guard := _ }) (v := .bool true) rfl (by kernel_rfl) (by kernel_rfl) (by kernel_rfl) (fun _ _ _ h => h) (Or.inl ⟨by rfl, fun w' hSw => ?_⟩) (by assumption) ?_
      · dsimp only at hSw
        have x0 := (HX.out.on hSw).c0
        have x1 := (HX.out.on hSw).c1
        have x2 := (HX.out.on hSw).c2
        go_simp
      try simp only [Act.put, List.setIfInBounds_toArray, List.set_cons_zero, List.set_cons_succ]
      refine wpAnyH_take (i := 15) (oi := { dst := some 2, op := _, type := _, pos := _, after := _, guard := _ }) (v := .bool true) rfl (by kernel_rfl) (by kernel_rfl) (by kernel_rfl) (fun _ _ _ h => h) (Or.inl ⟨by rfl, fun w' hSw => ?_⟩) (by assumption) ?_
      · dsimp only at hSw
        have x0 := (HX.out.on hSw).c0
        have x1 := (HX.out.on hSw).c1
        have x2 := (HX.out.on hSw).c2
        go_simp
      try simp only [Act.put, List.setIfInBounds_toArray, List.set_cons_zero, List.set_cons_succ]
      refine wpAnyH_done (by kernel_rfl) ?_ _
      refine NoPanic.normal ?_
      have HF := Lib.hid (HB.out.trans (X13.out.mono HB.out.size))
      clear C3 C10 C12 C13 HI9 HI8 HN9 HN8 HK9 HK8 HB
      go_wp2
      go_ret
      exact ⟨rfl, HF.out⟩
end Go.Proofs.YtoajckhfnadhjaaGreatDoor
