/- Package deps: All, Need, Users. Package deps: Users, Need. A map keyed by strings: its operations as equations on a run; how many keys it has, if two are there. Package deps: underIn and closedIn, of a patch that hangs on at most one, which hangs on none. Package deps: closedIn's function, of a patch that hangs on at most one, which hangs on none. -/
import Derived.Test.YtifkpelcdihdoaaGreatDoorProg
import Derived.WalkKit
import Derived.WalkSpells
import Derived.Handy
import Derived.Lib.Hide
import Derived.Shelf.Strings.BuilderK
import Derived.BigQuiet
import Derived.Deep.QuietTactic
import Derived.Lib.AtoiAllCases
import Derived.Lib.ItoaMem
import Derived.Test.YtifkpelcdihdoaaGreatDoorShelf
import Derived.Deep.RegionHeld3
import Derived.Deep.CutRange
import Derived.Lib.AppendIntMem
import Derived.BigRegion
import Derived.Deep.RegionWith
import Derived.Lib.QuietBelow
import Derived.Deep.MidRow
import Derived.Test.YtifkpelcdihdoaaGreatDoorCk20
namespace Go.Proofs.YtifkpelcdihdoaaGreatDoor
open Go.RowKit
set_option linter.unusedVariables false

theorem own_apart {w w' : World} {b m : Nat} {f : ByteArray → Option Value} (h : StrMap w b m f) (hg : w.grownBy w' (some b)) {B : Nat} {v : Value} {o : List Ptm} (ho : patR.Own w B v o) : patR.Own w' B v o :=
  Rk.Own.grown ho hg fun g hg2 e => by
    obtain ⟨cs, t, fr, hc⟩ := own_cells ho hg2
    exact h.ne_cells hc (by simpa using e)
theorem gather_rows (l : List Ptm) (ns : List (List UInt8)) : gatherD (pkeys l) ns = ns ++ (l.filter fun x => decide (x.name.data.toList ∈ ns)).flatMap Ptm.deps := by
  unfold gatherD pkeys
  rw [List.filter_map, List.flatMap_map]
  rfl
theorem deps_few {o l : List Ptm} (hl : ∀ x ∈ l, x.Lt) (ho : ∀ x ∈ o, x ∈ l) : (o.flatMap Ptm.deps).length ≤ 60 * o.length := by
  induction o with
  | nil => simp
  | cons x o ih =>
    have h1 := ih fun y hy => ho y (List.mem_cons_of_mem _ hy)
    have h2 := (hl x (ho x (by simp))).few
    rw [List.flatMap_cons, List.length_append, List.length_cons]
    omega
set_option maxHeartbeats 8000000 in
set_option maxRecDepth 100000 in
theorem dall_any (A : Option Addr) (l : List Ptm) (c : Nat) (B : Option Addr) (ns : List (List UInt8)) (d : Nat) (w : World) (hd : DepIn w A l c) (hn : NamIn w B ns d) :
    Calls Tryz.prog 12 #[.slice A l.length c, .slice B ns.length d] w (RowLeft w (allD (pkeys l) ns)) := by
  have HD := Lib.hid hd
  have HN := Lib.hid hn
  have hM0 : SetM (w.alloc (.map #[] 0)) w.heap.size (ns.take 0).length (ns.take 0) := by
    have h := StrMap.made w
    rw [← setF_nil] at h
    exact h
  have HM0 := Lib.hid hM0
  have HB0 : Hid (Below w.heap.size w (w.alloc (.map #[] 0))) := (Below.refl _ _).alloc (Nat.le_refl _) _
  have hfew := hn.few
  have hlf := hd.few
  obtain ⟨o, ho⟩ : ∃ o, (l.filter fun x => decide (x.name.data.toList ∈ ns)) = o := ⟨_, rfl⟩
  have HIN : Hid (∀ x ∈ o, x ∈ l) := fun x hx => by rw [← ho] at hx; exact (List.mem_filter.1 hx).1
  have HOL : Hid (o.length ≤ 20) := by show _ ≤ _; rw [← ho]; exact Nat.le_trans (List.length_filter_le _ _) hlf
  have HALL : Hid (allD (pkeys l) ns = setS (ns ++ o.flatMap Ptm.deps)) := by show setS _ = _; rw [gather_rows, ho]
  have HTH := Lib.hid (fun (g : Nat) (W : World) (hV : AmongV W g ns) (hW : Below w.heap.size w W) => those_called g ns A l c W hV (hd.pats.on hW) (by omega) (fun x hx => by have := (hd.inn x hx).name; omega))
  rw [ho] at HTH
  have q1 : ∀ W : World, (Instr.makeMap 46 none).run Tryz.prog W = .ok (.map (some W.heap.size)) (W.alloc (.map #[] 0)) := fun W => mk_map0 _ W
  clear hd hn hM0 ho
  go_enter Tryz.func12, Tryz.ntmps12
  go_upto_region 2 with (fail)
  clear q1
  generalize (w.alloc (.map #[] 0)) = w2 at *
  go_wp2_with fail
  go_loopw [15] (fun i wr => ∃ k : Nat, k ≤ ns.length ∧ i = .int .i64 (k : Int) ∧ Hid (SetM wr w.heap.size (ns.take k).length (ns.take k)) ∧ Hid (Below w.heap.size w wr)) (fun i _ => ns.length - (intOf i).toNat)
  case atStart => exact ⟨0, Nat.zero_le _, rfl, HM0.out, HB0.out⟩
  case round =>
    clear HM0 HB0
    obtain ⟨k, hk, rfl, HM, HB⟩ := hrel
    by_cases hlt : k < ns.length
    · obtain ⟨b, off, rfl, hg, hc⟩ := (HN.out.on HB.out).strs.at_ (k := k) (by rw [toBs_len]; exact hlt)
      have e1 : (toBs ns)[k]'(by rw [toBs_len]; exact hlt) = toB ns[k] := by simp [toBs]
      rw [e1] at hc
      have hz : (toB ns[k]).size ≤ 9223372036854775807 := by
        have := HN.out.short ns[k] (List.getElem_mem _)
        have h2 := toB_size ns[k]
        omega
      have HST : Hid (ns.take (k + 1) = ns.take k ++ [(toB ns[k]).data.toList]) := by
        show _ = _
        rw [of_toB]
        exact List.take_succ_eq_append_getElem hlt
      have hle : (ns.take k).length ≤ 1000000000000 := by rw [List.length_take]; omega
      clear e1
      generalize toB ns[k] = s at *
      generalize ns.take k = nk at *
      go_wp2_with (at_mapUpdate; refine wpList_put_str _ _ Tryz.underlying46 rfl _ _ _ rfl w.heap.size nk.length (setF nk) s (.agg #[]) rfl rfl rfl HM.out hz hle ?_)
      intro w3 hs3 hg3
      have HM3 : Hid (SetM w3 w.heap.size (ns.take (k + 1)).length (ns.take (k + 1))) := by
        show StrMap _ _ _ _
        rw [HST.out, ← setF_put, List.length_append]
        exact hs3
      have HB3 : Hid (Below w.heap.size w w3) := HB.out.grown hg3 HB.out.size (fun q hq => by simp only [Option.some.injEq] at hq; omega)
      clear hs3 hg3 HM HB hz HST hc hle
      go_wp2
      go_roundw
      case rel => exact ⟨k + 1, by omega, by go_num, HM3.out, HB3.out⟩
      case measure => simp [intOf]; omega
    · have HM5 : Hid (SetM wr w.heap.size (ns ++ (o.take 0).flatMap Ptm.deps).length (ns ++ (o.take 0).flatMap Ptm.deps)) := by
        have h := HM.out
        rw [List.take_of_length_le (by omega)] at h
        show SetM _ _ _ _
        simpa using h
      clear HM
      have C := Lib.hid (dcalled_any B ns d wr (HN.out.on HB.out).strs (by omega) (fun x hx => by have := HN.out.short x hx; omega))
      -- @P2
      go_wp2_with fail
      refine C.out.mono ?_
      rintro e w4 ⟨g, rfl, hv, hb⟩
      have HB4 := Lib.hid (HB.out.trans (hb.mono HB.out.size))
      have HM6 := Lib.hid (StrMap.on HM5.out hb)
      have C2 := Lib.hid (HTH.out g w4 hv HB4.out)
      clear hv hb HM5 HB C HTH
      go_wp2_with fail
      refine C2.out.mono ?_
      rintro e w5 ⟨A3, c3, rfl, ho5, hb5⟩
      have HB5 := Lib.hid (HB4.out.trans (hb5.mono HB4.out.size))
      have HM7 := Lib.hid (StrMap.on HM6.out hb5)
      have HO5 := Lib.hid (ho5.lower HB4.out.size)
      clear ho5 hb5 HM6 HB4 C2
      go_wp2_with fail
      -- @P3
      go_loopw [28] (fun i wr => ∃ k : Nat, k ≤ o.length ∧ i = .int .i64 (k : Int) ∧ Hid (SetM wr w.heap.size (ns ++ (o.take k).flatMap Ptm.deps).length (ns ++ (o.take k).flatMap Ptm.deps)) ∧ Hid (patR.Own wr w.heap.size (.slice A3 o.length c3) o) ∧ Hid (Below w.heap.size w wr)) (fun i _ => o.length - (intOf i).toNat)
      case atStart => exact ⟨0, Nat.zero_le _, rfl, HM7.out, HO5.out, HB5.out⟩
      case round =>
        clear HM7 HO5 HB5
        obtain ⟨k, hk, rfl, HM, HO, HB⟩ := hrel
        by_cases hlt : k < o.length
        · obtain ⟨b, off, rfl, hbB, hcx⟩ := HO.out.parts.2.1.get hlt
          have HXL := Lib.hid (HIN.out _ (List.getElem_mem hlt))
          have HST : Hid ((o.take (k + 1)).flatMap Ptm.deps = (o.take k).flatMap Ptm.deps ++ o[k].deps) := by
            show _ = _
            rw [List.take_succ_eq_append_getElem hlt, List.flatMap_append]
            simp
          have HLK : Hid (((o.take k).flatMap Ptm.deps).length ≤ 1200) := by
            have h := deps_few (o := o.take k) HD.out.lt (fun x hx => HIN.out x (List.mem_of_mem_take hx))
            have h2 : (o.take k).length ≤ 20 := Nat.le_trans (by rw [List.length_take]; omega) HOL.out
            show _ ≤ _
            omega
          have u0 : (0 : Int) ≤ (k : Int) := by omega
          have u1 : (k : Int) < (o.length : Int) := by omega
          have u2 : o.length ≤ 20 := HOL.out
          have u3 : o[k].deps.length ≤ 60 := (HD.out.lt _ HXL.out).few
          have IA := pat_indexAt (c := c3) (A := some ⟨b, off, none⟩) rfl hlt
          generalize o[k] = x at *
          generalize hX0 : (o.take k).flatMap Ptm.deps = X at *
          clear hX0
          have RX := Lib.hid (pat_rng hcx)
          obtain ⟨hbx, hX⟩ := pat_box wr x
          have HX := Lib.hid hX
          have HM1 := Lib.hid (StrMap.on HM.out hbx)
          have HO1 := Lib.hid (Rk.Own.kept HO.out hbx)
          have HB1 := Lib.hid (HB.out.trans (hbx.mono HB.out.size))
          clear hcx hbB hbx hX HM HO HB
          go_upto_region 10 with ((with_reducible refine wpList_load_patw (.tmp 30) b (off + k * 3) x RX.out ?_ ?_ ?_ ?_); rfl; rfl; rfl; simp only [Act.put, List.setIfInBounds_toArray, List.set_cons_zero, List.set_cons_succ])
          generalize (wr.alloc (.cells #[.string x.name, .slice x.a1 x.deps.length x.c1, .slice x.a2 x.ops.length x.c2] 35)) = wa at *
          generalize wr.heap.size = gx at *
          have p1 := HX.out.c1
          clear RX IA
          have HMi : Hid (SetM wa w.heap.size (ns ++ X ++ x.deps.take 0).length (ns ++ X ++ x.deps.take 0)) := by
            show SetM _ _ _ _
            rw [List.take_zero, List.append_nil]
            exact HM1.out
          clear HM1
          go_wp2_with fail
          clear p1 HX
          -- @P4
          go_loopw [35] (fun i wr => ∃ j : Nat, j ≤ x.deps.length ∧ i = .int .i64 (j : Int) ∧ Hid (SetM wr w.heap.size (ns ++ X ++ x.deps.take j).length (ns ++ X ++ x.deps.take j)) ∧ Hid (patR.Own wr w.heap.size (.slice (some ⟨b, off, none⟩) o.length c3) o) ∧ Hid (Below w.heap.size w wr)) (fun i _ => x.deps.length - (intOf i).toNat)
          case atStart => exact ⟨0, Nat.zero_le _, rfl, HMi.out, HO1.out, HB1.out⟩
          case round =>
            clear HMi HO1 HB1
            obtain ⟨j, hj, rfl, HM, HO, HB⟩ := hrel
            by_cases hjt : j < x.deps.length
            · obtain ⟨b2, off2, e2, hg, hc⟩ := ((HD.out.on HB.out).pats.2 x HXL.out).deps.at_ (k := j) (by rw [toBs_len]; exact hjt)
              have e1 : (toBs x.deps)[j]'(by rw [toBs_len]; exact hjt) = toB x.deps[j] := by simp [toBs]
              rw [e1] at hc
              have hz : (toB x.deps[j]).size ≤ 9223372036854775807 := by
                have := (HD.out.lt x HXL.out).deps x.deps[j] (List.getElem_mem _)
                have h2 := toB_size x.deps[j]
                omega
              have HST2 : Hid (ns ++ X ++ x.deps.take (j + 1) = ns ++ X ++ x.deps.take j ++ [(toB x.deps[j]).data.toList]) := by
                show _ = _
                rw [of_toB, List.take_succ_eq_append_getElem hjt]
                simp
              have hle : (ns ++ X ++ x.deps.take j).length ≤ 1000000000000 := by
                have h1 := HLK.out
                have h2 := (HD.out.lt x HXL.out).few
                rw [List.length_append, List.length_append, List.length_take]
                omega
              have v0 : (0 : Int) ≤ (j : Int) := by omega
              have v1 : (j : Int) < (x.deps.length : Int) := by omega
              clear e1
              rw [e2]
              generalize toB x.deps[j] = s at *
              generalize hY0 : ns ++ X ++ x.deps.take j = Y at *
              clear hY0
              go_wp2_with (at_mapUpdate; refine wpList_put_str _ _ Tryz.underlying46 rfl _ _ _ rfl w.heap.size Y.length (setF Y) s (.agg #[]) rfl rfl rfl HM.out hz hle ?_)
              intro w6 hs6 hg6
              have HM6 : Hid (SetM w6 w.heap.size (ns ++ X ++ x.deps.take (j + 1)).length (ns ++ X ++ x.deps.take (j + 1))) := by
                show StrMap _ _ _ _
                rw [HST2.out, ← setF_put, List.length_append]
                exact hs6
              have HO6 := Lib.hid (own_apart HM.out hg6 HO.out)
              have HB6 : Hid (Below w.heap.size w w6) := HB.out.grown hg6 HB.out.size (fun q hq => by simp only [Option.some.injEq] at hq; omega)
              clear hs6 hg6 HM HB HO hz HST2 hc hle e2
              go_wp2
              go_roundw
              case rel => exact ⟨j + 1, by omega, by go_num, HM6.out, HO6.out, HB6.out⟩
              case measure => simp [intOf]; omega
            · have HM8 : Hid (SetM wr w.heap.size (ns ++ (o.take (k + 1)).flatMap Ptm.deps).length (ns ++ (o.take (k + 1)).flatMap Ptm.deps)) := by
                have h := HM.out
                rw [List.take_of_length_le (by omega)] at h
                show SetM _ _ _ _
                rw [HST.out, ← List.append_assoc]
                exact h
              clear HM HST
              go_wp2
              go_roundw
              case rel => exact ⟨k + 1, by omega, by go_num, HM8.out, HO.out, HB.out⟩
              case measure => simp [intOf]; omega
        · have HM9 : Hid (SetM wr w.heap.size (ns ++ o.flatMap Ptm.deps).length (ns ++ o.flatMap Ptm.deps)) := by
            have h := HM.out
            rwa [List.take_of_length_le (by omega)] at h
          have hle : (ns ++ o.flatMap Ptm.deps).length ≤ 100000 := by
            have h := deps_few (o := o) HD.out.lt HIN.out
            have h2 := HOL.out
            rw [List.length_append]
            omega
          have CK := Lib.hid (keyss_any w.heap.size _ (ns ++ o.flatMap Ptm.deps) wr HM9.out.names hle)
          rw [← HALL.out] at CK
          clear HM HM9 HO hle
          go_wp2_with fail
          refine CK.out.mono ?_
          rintro e w7 ⟨A7, c7, rfl, hA7, hs7, hb7⟩
          have HF : Hid (RowLeft w (allD (pkeys l) ns) (.returned (.slice A7 (allD (pkeys l) ns).length c7)) w7) := ⟨A7, c7, rfl, hA7, hs7, HB.out.trans (hb7.mono HB.out.size)⟩
          clear hs7 hb7 hA7 HB CK
          go_wp2
          go_ret
          exact HF.out
end Go.Proofs.YtifkpelcdihdoaaGreatDoor
namespace Go.Proofs.YtifkpelcdihdoaaGreatDoor
open Go.RowKit
set_option linter.unusedVariables false

theorem any_swap (a b : List (List UInt8)) : (a.any fun n => decide (n ∈ b)) = b.any fun n => decide (n ∈ a) := by
  rw [Bool.eq_iff_iff, List.any_eq_true, List.any_eq_true]
  constructor
  · rintro ⟨x, h1, h2⟩
    exact ⟨x, of_decide_eq_true h2, decide_eq_true h1⟩
  · rintro ⟨x, h1, h2⟩
    exact ⟨x, of_decide_eq_true h2, decide_eq_true h1⟩
theorem users_rows (l : List Ptm) (ns : List (List UInt8)) : usersD (pkeys l) ns = setS (namesD (pkeys (l.filter fun x => (decide (x.name.data.toList ∈ ns) || x.deps.any fun n => decide (n ∈ ns))))) := by
  have e : (onD ns ∘ Ptm.key) = fun x : Ptm => (decide (x.name.data.toList ∈ ns) || x.deps.any fun n => decide (n ∈ ns)) := by
    funext x
    show (decide (x.name.data.toList ∈ ns) || ns.any fun n => decide (n ∈ x.deps)) = _
    rw [any_swap ns x.deps]
  unfold usersD namesD pkeys
  rw [List.filter_map, e]
theorem minus_none (a b : List (List UInt8)) : decide ((minusS a (setS b)).length = 0) = a.all fun n => decide (n ∈ b) := by
  rw [Bool.eq_iff_iff, decide_eq_true_eq, List.length_eq_zero_iff, List.all_eq_true]
  constructor
  · intro h x hx
    by_cases hb : x ∈ b
    · exact decide_eq_true hb
    · exfalso
      have h2 : x ∈ minusS a (setS b) := by
        simp only [minusS, mem_setS, List.mem_filter]
        exact ⟨hx, by simpa using hb⟩
      rw [h] at h2
      cases h2
  · intro h
    refine List.eq_nil_iff_forall_not_mem.2 fun x hx => ?_
    simp only [minusS, mem_setS, List.mem_filter] at hx
    have h2 := of_decide_eq_true (h x hx.1)
    simp [h2] at hx
set_option maxHeartbeats 4000000 in
set_option maxRecDepth 100000 in
theorem dusers_any (A : Option Addr) (l : List Ptm) (c : Nat) (B : Option Addr) (ns : List (List UInt8)) (d : Nat) (w : World) (hd : DepIn w A l c) (hn : NamIn w B ns d) :
    Calls Tryz.prog 13 #[.slice A l.length c, .slice B ns.length d] w (RowLeft w (usersD (pkeys l) ns)) := by
  have HD := Lib.hid hd
  have hfew := hn.few
  have hlf := hd.few
  have C := Lib.hid (damong_any B ns d w hn.strs (by omega) (fun x hx => by have := hn.short x hx; omega))
  have HTH := Lib.hid (fun (g : Nat) (W : World) (hV : AmongV W g ns) (hW : Below w.heap.size w W) => those_users g ns A l c W hV (hd.pats.on hW) (by omega) (fun x hx => by have := (hd.inn x hx).name; omega) (fun x hx => by have := (hd.lt x hx).few; omega) (fun x hx e he => by have := (hd.lt x hx).deps e he; omega))
  obtain ⟨o, ho⟩ : ∃ o, (l.filter fun x => (decide (x.name.data.toList ∈ ns) || x.deps.any fun n => decide (n ∈ ns))) = o := ⟨_, rfl⟩
  have HIN : Hid (∀ x ∈ o, x ∈ l) := fun x hx => by rw [← ho] at hx; exact (List.mem_filter.1 hx).1
  have HOL : Hid (o.length ≤ 20) := by show _ ≤ _; rw [← ho]; exact Nat.le_trans (List.length_filter_le _ _) hlf
  have HUS : Hid (usersD (pkeys l) ns = setS (namesD (pkeys o))) := by show _ = _; rw [users_rows, ho]
  rw [ho] at HTH
  clear hd hn ho
  go_enter Tryz.func13, Tryz.ntmps13
  go_wp2_with fail
  refine C.out.mono ?_
  rintro e w1 ⟨h, rfl, hs1, hb1⟩
  have hv := amongV_box hs1
  have hb := hb1.trans ((below_box #[.func (.func 51) #[] #[.pointer (some ⟨h, 0, none⟩)]] (t := 51)).mono hb1.size)
  have C2 := Lib.hid (HTH.out w1.heap.size _ hv hb)
  have HB := Lib.hid hb
  clear hs1 hb1 C hv hb HTH
  go_wp2_with fail
  refine C2.out.mono ?_
  rintro e w2 ⟨A3, c3, rfl, ho2, hb2⟩
  have HB2 := Lib.hid (HB.out.trans (hb2.mono HB.out.size))
  have hl2 : o.length ≤ 100000 := by have := HOL.out; omega
  have C3 := Lib.hid (names_any_d A3 o c3 w2 ⟨ho2.parts.2.1, fun x hx => (HD.out.on HB2.out).pats.2 x (HIN.out x hx)⟩ hl2 (fun x hx => by have := (HD.out.inn x (HIN.out x hx)).name; omega))
  rw [← HUS.out] at C3
  clear ho2 hb2 HB C2
  go_wp2_with fail
  refine C3.out.mono ?_
  rintro e w3 ⟨A4, c4, rfl, hA4, hs4, hb4⟩
  have HF : Hid (RowLeft w (usersD (pkeys l) ns) (.returned (.slice A4 (usersD (pkeys l) ns).length c4)) w3) := ⟨A4, c4, rfl, hA4, hs4, HB2.out.trans (hb4.mono HB2.out.size)⟩
  clear hs4 hb4 hA4 HB2 C3
  go_wp2
  go_ret
  exact HF.out
set_option maxHeartbeats 4000000 in
set_option maxRecDepth 100000 in
theorem dneed_any (A : Option Addr) (l : List Ptm) (c : Nat) (B : Option Addr) (ns : List (List UInt8)) (d : Nat) (w : World) (hd : DepIn w A l c) (hn : NamIn w B ns d) :
    Calls Tryz.prog 6 #[.slice A l.length c, .slice B ns.length d] w (ToldW w (allD (pkeys l) ns) (if theirD (pkeys l) ns then 0 else 9)) := by
  have HD := Lib.hid hd
  have HN := Lib.hid hn
  have hfew := hn.few
  have hlf := hd.few
  have C := Lib.hid (names_any_d A l c w hd.pats (by omega) (fun x hx => by have := (hd.inn x hx).name; omega))
  obtain ⟨nl, hnl⟩ : ∃ nl, setS (namesD (pkeys l)) = nl := ⟨_, rfl⟩
  have HNL : Hid (nl.length ≤ 20) := by
    show _ ≤ _
    rw [← hnl]
    refine Nat.le_trans (setS_len _) ?_
    unfold namesD
    rw [List.length_map, pkeys_len]
    exact hlf
  obtain ⟨t, ht⟩ : ∃ t, theirD (pkeys l) ns = t := ⟨_, rfl⟩
  have HT : Hid (decide ((minusS ns nl).length = 0) = t) := by
    show _ = _
    rw [← hnl, minus_none, ← ht]
    rfl
  rw [hnl] at C
  rw [ht]
  obtain ⟨er, her⟩ : ∃ er : Int, (if t = true then (0 : Int) else 9) = er := ⟨_, rfl⟩
  rw [her]
  have HER := Lib.hid her
  clear hd hn hnl ht her
  go_enter Tryz.func6, Tryz.ntmps6
  go_wp2_with fail
  refine C.out.mono ?_
  rintro e w1 ⟨A1, c1, rfl, hA1, hs1, hb1⟩
  have h := within_any B A1 (toBs ns) (toBs nl) d c1 w1 (HN.out.on hb1).strs hs1 (by rw [toBs_len]; omega) (by rw [toBs_len]; have := HNL.out; omega)
  rw [toBs_len, toBs_len, lists_toBs, lists_toBs, HT.out] at h
  have C2 := Lib.hid h
  have HB := Lib.hid hb1
  clear h hs1 hA1 hb1 C
  go_wp2_with fail
  refine C2.out.mono ?_
  rintro e w2 ⟨rfl, hb2⟩
  have HB2 := Lib.hid (HB.out.trans (hb2.mono HB.out.size))
  clear hb2 C2 HB
  cases t
  · have he : er = 9 := HER.out.symm
    subst he
    clear HER
    go_wp2
    go_ret2
    exact ⟨none, 0, [], rfl, ⟨fun e => absurd e (by decide), fun _ => rfl⟩, fun h => absurd h (by simp [toBs]), HB2.out⟩
  · have he : er = 0 := HER.out.symm
    subst he
    clear HER
    have C3 := Lib.hid (dall_any A l c B ns d w2 (HD.out.on HB2.out) (HN.out.on HB2.out))
    go_wp2_with fail
    refine C3.out.mono ?_
    rintro e w3 ⟨A4, c4, rfl, hA4, hs4, hb4⟩
    have HF := Lib.hid (HB2.out.trans (hb4.mono HB2.out.size))
    have HS4 := Lib.hid hs4
    have HA4 := Lib.hid hA4
    clear hs4 hb4 hA4 HB2 C3
    generalize allD (pkeys l) ns = ls at *
    go_wp2
    go_ret2
    exact ⟨A4, c4, ls, rfl, ⟨fun _ => rfl, fun h => absurd rfl h⟩, HS4.out, HF.out⟩
end Go.Proofs.YtifkpelcdihdoaaGreatDoor
namespace Go.Proofs.YtifkpelcdihdoaaGreatDoor
open Go.RowKit
open Go.Maps (Keyed IsMap)
set_option linter.unusedVariables false

section
variable {w : World} {b n : Nat} {f : ByteArray → Option Value} {s : ByteArray} (t e : TypeId) (ht : Tryz.prog.underlying t = some (.map 9 e))
include ht
/-- m[s]. -/
theorem StrMap.get {z : Value} (hzero : (zeroValue e).run Tryz.prog w = .ok z w) (hs : StrMap w b n f) (hz : s.size ≤ 9223372036854775807) (r : Option Value) (hr : f s = r) : (Instr.lookup t (.map (some b)) (.string s) false).run Tryz.prog w = .ok (r.getD z) w := by
  obtain ⟨n0, D, hn0, ho, hh⟩ := hs
  obtain ⟨v, ps, hrun, hv⟩ := ho.lookup strK ht hzero (zd := .held z) (zp := []) rfl (sLit_is hz)
  obtain ⟨h1, h2⟩ := hh s
  rw [hr] at h1
  cases r with
  | none =>
    rw [Maps.atKey_of_not_has h1] at hv
    rw [hrun, asIs_inv hv]
    rfl
  | some u =>
    rw [h2 u hr] at hv
    rw [hrun, asIs_inv hv]
    rfl
/-- v, ok := m[s]. -/
theorem StrMap.look {z : Value} (hzero : (zeroValue e).run Tryz.prog w = .ok z w) (hs : StrMap w b n f) (hz : s.size ≤ 9223372036854775807) (r : Option Value) (hr : f s = r) : (Instr.lookup t (.map (some b)) (.string s) true).run Tryz.prog w = .ok (.tuple #[r.getD z, .bool r.isSome]) w := by
  obtain ⟨n0, D, hn0, ho, hh⟩ := hs
  obtain ⟨v, ps, hrun, hv⟩ := ho.look_ok strK ht hzero (zd := .held z) (zp := []) rfl (sLit_is hz)
  obtain ⟨h1, h2⟩ := hh s
  rw [hr] at h1
  cases r with
  | none =>
    rw [Maps.atKey_of_not_has h1] at hv
    rw [hrun, asIs_inv hv, h1]
    rfl
  | some u =>
    rw [h2 u hr] at hv
    rw [hrun, asIs_inv hv, h1]
    rfl
/-- m[s] = u. -/
theorem StrMap.put (hs : StrMap w b n f) (hz : s.size ≤ 9223372036854775807) (hn : n ≤ 1000000000000) (u : Value) : ∃ w', (Instr.mapUpdate t (.map (some b)) (.string s) u).run Tryz.prog w = .ok () w' ∧ StrMap w' b (n + 1) (fun t => if t = s then some u else f t) ∧ w.grownBy w' (some b) := by
  obtain ⟨n0, D, hn0, ho, hh⟩ := hs
  obtain ⟨w', hrun, h1, h2⟩ := ho.update strK ht (by unfold maxLen; omega) (sLit_is hz) (val := u) (d := .held u) (ps := []) rfl
  exact ⟨w', hrun, ⟨n0 + 1, _, by omega, h1, tells_put ho.isMap hh hz u⟩, h2⟩
end
theorem size_two {D : DataW Value} (hD : IsMap D) {k l : Lit} (h1 : Maps.has D k = true) (h2 : Maps.has D l = true) (hkl : k ≠ l) : 2 ≤ Maps.size D := by
  obtain ⟨es, rfl⟩ := hD
  rw [Maps.has_eq, List.any_eq_true] at h1 h2
  obtain ⟨p, hp, hpk⟩ := h1
  obtain ⟨q, hq, hql⟩ := h2
  have e1 := WideAt.sameKey_eq hpk
  have e2 := WideAt.sameKey_eq hql
  rw [Maps.size_eq]
  match es, hp, hq with
  | [x], hp, hq =>
    rw [List.mem_singleton] at hp hq
    subst hp
    subst hq
    exact absurd (e1.symm.trans e2) hkl
  | x :: y :: r, _, _ => simp
/-- len(m), of two keys or more. -/
theorem wpList_len_two {w : World} {ops : Array Oper} {rest : List Oper} {o : Oper} {a : Act} {Q : Exit → Act → World → Prop} (t e : TypeId) (ht : Tryz.prog.underlying t = some (.map 9 e)) (hg : o.guard = none) (m : Operand) (hop : o.op = Op.call { callee := Callee.builtin Builtin.len, args := #[m], argTypes := #[t] })
    (b n : Nat) (f : ByteArray → Option Value) (hm : a.eval m = .map (some b)) (hs : StrMap w b n f) (s s' : ByteArray) (hss : s ≠ s') (h1 : (f s).isSome = true) (h2 : (f s').isSome = true)
    (hK : ∀ k : Nat, 2 ≤ k → k ≤ n → wpList Tryz.prog ops Q rest (a.put o.dst (.int .i64 (k : Int))) w) : wpList Tryz.prog ops Q (o :: rest) a w := by
  obtain ⟨n0, D, hn0, ho, hh⟩ := hs
  refine wpList_len_own w hg m t hop _ _ ht asIs b n0 D hm ho ?_
  exact hK _ (size_two ho.isMap (by rw [(hh s).1]; exact h1) (by rw [(hh s').1]; exact h2) (fun e => hss (sLit_inj e))) (Nat.le_trans ho.size_le hn0)
end Go.Proofs.YtifkpelcdihdoaaGreatDoor
namespace Go.Proofs.YtifkpelcdihdoaaGreatDoor
open Go.RowKit
set_option linter.unusedVariables false

/-- A variable that holds a map. -/
def MapV (w : World) (g m : Nat) (f : ByteArray → Option Value) : Prop := ∃ b, w.cell? ⟨g, 0, none⟩ = some (.map (some b)) ∧ StrMap w b m f
theorem MapV.on {w w' : World} {g m : Nat} {f : ByteArray → Option Value} (h : MapV w g m f) (hb : Below w.heap.size w w') : MapV w' g m f := by
  obtain ⟨b, h1, h2⟩ := h
  exact ⟨b, cell_on h1 hb, StrMap.on h2 hb⟩
/-- A variable that holds underIn's function. -/
def UnderV (w : World) (g m : Nat) (f : ByteArray → Option Value) : Prop := ∃ h, w.cell? ⟨g, 0, none⟩ = some (.func (.func 85) #[] #[.pointer (some ⟨h, 0, none⟩)]) ∧ MapV w h m f
theorem UnderV.on {w w' : World} {g m : Nat} {f : ByteArray → Option Value} (h : UnderV w g m f) (hb : Below w.heap.size w w') : UnderV w' g m f := by
  obtain ⟨b, h1, h2⟩ := h
  exact ⟨b, cell_on h1 hb, h2.on hb⟩
def zeroP : Ptm := ⟨⟨#[]⟩, none, 0, [], none, 0, []⟩
theorem zero_pat (w : World) : (zeroValue 35).run Tryz.prog w = .ok (.agg #[.string ⟨#[]⟩, .slice none 0 0, .slice none 0 0]) w := by kernel_rfl
set_option maxRecDepth 100000 in
theorem dunder_any (b m : Nat) (f : ByteArray → Option Value) (w : World) (hs : StrMap w b m f) :
    Calls Tryz.prog 68 #[.map (some b)] w fun e w' => ∃ g, e = .returned (.func (.func 85) #[] #[.pointer (some ⟨g, 0, none⟩)]) ∧ MapV w' g m f ∧ Below w.heap.size w w' := by
  have HV : Hid (MapV (w.alloc (.cells #[.map (some b)] 67)) w.heap.size m f) := ⟨b, by rw [World.cell?_alloc_new]; rfl, hs.on (below_box _)⟩
  have HB : Hid (Below w.heap.size w (w.alloc (.cells #[.map (some b)] 67))) := below_box _
  clear hs
  go_enter Tryz.func68, Tryz.ntmps68
  go_wp2
  go_ret
  exact ⟨_, rfl, HV.out, HB.out⟩
set_option maxRecDepth 100000 in
theorem dclosed_any (b m : Nat) (f : ByteArray → Option Value) (w : World) (hs : StrMap w b m f) :
    Calls Tryz.prog 43 #[.map (some b)] w fun e w' => ∃ g, e = .returned (.func (.func 69) #[] #[.pointer (some ⟨g, 0, none⟩)]) ∧ UnderV w' g m f ∧ Below w.heap.size w w' := by
  have C := Lib.hid (dunder_any b m f w hs)
  clear hs
  go_enter Tryz.func43, Tryz.ntmps43
  go_wp2_with fail
  refine C.out.mono ?_
  rintro e w1 ⟨h, rfl, hv, hb⟩
  have HV : Hid (UnderV (w1.alloc (.cells #[.func (.func 85) #[] #[.pointer (some ⟨h, 0, none⟩)]] 95)) w1.heap.size m f) := ⟨h, by rw [World.cell?_alloc_new]; rfl, hv.on (below_box _)⟩
  have HB := Lib.hid (hb.trans ((below_box #[.func (.func 85) #[] #[.pointer (some ⟨h, 0, none⟩)]] (t := 95)).mono hb.size))
  clear hv hb C
  go_wp2
  go_ret
  exact ⟨_, rfl, HV.out, HB.out⟩
set_option maxHeartbeats 4000000 in
set_option maxRecDepth 100000 in
theorem dunder1_none (g : Nat) (z : Ptm) (w : World) (hd : z.deps = []) :
    Calls Tryz.prog 85 #[.agg #[.string z.name, .slice z.a1 z.deps.length z.c1, .slice z.a2 z.ops.length z.c2], .pointer (some ⟨g, 0, none⟩)] w fun e w' => ∃ A c, e = .returned (.tuple #[.slice A 0 c, .bool true]) ∧ Below w.heap.size w w' := by
  obtain ⟨nm, za, zc, ds, ya, yc, os⟩ := z
  obtain rfl : ds = [] := hd
  obtain ⟨hb, hx⟩ := patb_box w (.string nm) (.slice za 0 zc) (.slice ya os.length yc)
  show Calls Tryz.prog 85 #[.agg #[.string nm, .slice za 0 zc, .slice ya os.length yc], .pointer (some ⟨g, 0, none⟩)] w _
  have HP := Lib.hid hx
  have HB := Lib.hid hb
  clear hb hx
  go_enter Tryz.func85, Tryz.ntmps85
  go_upto_region 1 with (fail)
  generalize (w.alloc (.cells #[.string nm, .slice za 0 zc, .slice ya os.length yc] 35)) = wb at *
  have p1 := HP.out.c1
  obtain ⟨cs, hmk, hblk⟩ := Rk.make_ patR zeroP rfl wb 0 (by decide)
  have hmk2 : (Instr.makeSlice 22 (.int .i64 0) (.int .i64 0)).run Tryz.prog wb = .ok (.slice (some ⟨wb.heap.size, 0, none⟩) 0 0) (wb.alloc (.cells cs patR.ty)) := hmk
  have HBx : Hid (Below w.heap.size w (wb.alloc (.cells cs patR.ty))) := HB.out.trans ((below_box _).mono HB.out.size)
  have p1b := cell_on p1 (below_box (t := patR.ty) cs)
  have C := Lib.hid (fun (fv : Value) (W : World) => psort_few (some ⟨wb.heap.size, 0, none⟩) 0 0 (by decide) fv W)
  clear hblk HB hmk
  -- @P1
  go_wp2_with fail
  refine wp_loop_rounds 1 ?_
  rw [rounds_succ]
  go_wp2_with fail
  refine (C.out _ _).mono ?_
  rintro e w1 ⟨rfl, hw⟩
  subst hw
  go_wp2
  go_ret2
  exact ⟨_, _, rfl, HBx.out⟩
set_option maxHeartbeats 4000000 in
set_option maxRecDepth 100000 in
theorem dunder1_one (g m : Nat) (f : ByteArray → Option Value) (z y : Ptm) (d : List UInt8) (w : World) (hV : MapV w g m f) (oz : z.Ok w w.heap.size) (hd : z.deps = [d]) (hl : d.length ≤ 9223372036854775807) (hf : f (toB d) = some (.agg #[.string y.name, .slice y.a1 y.deps.length y.c1, .slice y.a2 y.ops.length y.c2])) :
    Calls Tryz.prog 85 #[.agg #[.string z.name, .slice z.a1 z.deps.length z.c1, .slice z.a2 z.ops.length z.c2], .pointer (some ⟨g, 0, none⟩)] w fun e w' => ∃ A c, e = .returned (.tuple #[.slice A 1 c, .bool true]) ∧ patR.Own w' w.heap.size (.slice A 1 c) [y] ∧ Below w.heap.size w w' := by
  obtain ⟨nm, za, zc, ds, ya, yc, os⟩ := z
  obtain rfl : ds = [d] := hd
  obtain ⟨hb, hx⟩ := patb_box w (.string nm) (.slice za 1 zc) (.slice ya os.length yc)
  show Calls Tryz.prog 85 #[.agg #[.string nm, .slice za 1 zc, .slice ya os.length yc], .pointer (some ⟨g, 0, none⟩)] w _
  have HP := Lib.hid hx
  have HB := Lib.hid hb
  have HDS : Hid (Strs _ _ za (toBs [d])) := (oz.on hb).deps
  have HV := Lib.hid (hV.on hb)
  clear hb hx oz hV
  go_enter Tryz.func85, Tryz.ntmps85
  go_upto_region 1 with (fail)
  generalize (w.alloc (.cells #[.string nm, .slice za 1 zc, .slice ya os.length yc] 35)) = wb at *
  have p1 := HP.out.c1
  obtain ⟨cs, hmk, hblk⟩ := Rk.make_ patR zeroP rfl wb 1 (by decide)
  have hmk2 : (Instr.makeSlice 22 (.int .i64 1) (.int .i64 1)).run Tryz.prog wb = .ok (.slice (some ⟨wb.heap.size, 0, none⟩) 1 1) (wb.alloc (.cells cs patR.ty)) := hmk
  have hb2 : Below wb.heap.size wb (wb.alloc (.cells cs patR.ty)) := below_box _
  have HBx := Lib.hid (HB.out.trans (hb2.mono HB.out.size))
  have p1b := cell_on p1 hb2
  obtain ⟨b0, off0, ea, hlt0, hc0⟩ := (HDS.out.on hb2).at_ (k := 0) (by simp [toBs])
  have hc1 : (wb.alloc (.cells cs patR.ty)).cell? ⟨b0, off0, none⟩ = some (.string (toB d)) := by simpa [toBs] using hc0
  obtain ⟨b, c1, hm⟩ := HV.out.on hb2
  have hzd : (toB d).size ≤ 9223372036854775807 := by rw [toB_size]; exact hl
  have HK := Lib.hid hblk
  have HM := Lib.hid hm
  have HGB : Hid (w.heap.size ≤ wb.heap.size) := HB.out.size
  rw [ea] at p1 p1b
  rw [ea]
  go_upto_region 2 with (fail)
  generalize hwm : (wb.alloc (.cells cs patR.ty)) = wm at *
  generalize hgb : wb.heap.size = gb at *
  clear hwm hgb hmk hmk2 hblk HB hb2 hm HDS HV hl p1 hc0 HP ea
  have hlk := StrMap.look 67 35 Tryz.underlying67 (zero_pat wm) HM.out hzd _ hf
  obtain ⟨hby, hY⟩ := pat_box wm y
  have HYR := Lib.hid (pat_range hY)
  have HBy := Lib.hid (HBx.out.trans (hby.mono HBx.out.size))
  have HKy := Lib.hid (HK.out.on hby)
  have p1y := cell_on p1b hby
  have IA := pat_indexAt (c := 1) (n := 1) (k := 0) (A := some ⟨gb, 0, none⟩) rfl (by decide)
  simp only [Nat.zero_mul, Nat.add_zero] at IA
  generalize toB d = sd at *
  clear HM hf
  -- @P2
  go_wp2_with fail
  refine wp_loop_rounds 2 ?_
  rw [rounds_succ]
  go_upto_region 8 with (fail)
  generalize (wm.alloc (.cells #[.string y.name, .slice y.a1 y.deps.length y.c1, .slice y.a2 y.ops.length y.c2] 35)) = wy at *
  generalize wm.heap.size = gy at *
  have HTR : Hid (wy.there gb 0 3) := fun j hj => ⟨by rw [Nat.zero_add]; exact HKy.out.some_ (i := j) (by show j < 1 * 3; omega), HKy.out.fz _⟩
  have hput := HKy.out.put (i := 0) (by simp) y
  have HO : Hid (patR.Own (wy.setCells gb 0 y.cells) w.heap.size (.slice (some ⟨gb, 0, none⟩) 1 1) [y]) := hput.own HGB.out
  have HF : Hid (Below w.heap.size w (wy.setCells gb 0 y.cells)) := HBy.out.grown (Rk.setCells_grown wy gb 0 y.cells) HBy.out.size (fun q hq => by simp only [Option.some.injEq] at hq; have := HGB.out; omega)
  have C := Lib.hid (fun (fv : Value) (W : World) => psort_few (some ⟨gb, 0, none⟩) 1 1 (by decide) fv W)
  clear hput hby hY HBy HKy HK p1b
  -- @P3
  go_wp2_with (first | ((with_reducible refine wpList_load_patw (.tmp 8) gy 0 y HYR.out ?_ ?_ ?_ ?_); rfl; rfl; rfl; simp only [Act.put, List.setIfInBounds_toArray, List.set_cons_zero, List.set_cons_succ]) | ((with_reducible refine wpList_store_patr ?_ (.tmp 33) (.tmp 32) ?_ gb 0 y ?_ ?_ HTR.out ?_); rfl; rfl; rfl; rfl; simp only [Act.put]))
  rw [rounds_succ]
  go_wp2_with fail
  refine (C.out _ _).mono ?_
  rintro e w1 ⟨rfl, hw⟩
  subst hw
  go_wp2
  go_ret2
  exact ⟨_, _, rfl, HO.out, HF.out⟩
end Go.Proofs.YtifkpelcdihdoaaGreatDoor
namespace Go.Proofs.YtifkpelcdihdoaaGreatDoor
open Go.RowKit
set_option linter.unusedVariables false

theorem zero_int (w : World) : (zeroValue 3).run Tryz.prog w = .ok (.int .i64 0) w := by kernel_rfl
set_option maxHeartbeats 4000000 in
set_option maxRecDepth 100000 in
theorem dclosed1_none (g m : Nat) (f : ByteArray → Option Value) (z : Ptm) (w : World) (hV : UnderV w g m f) (hd : z.deps = []) :
    Calls Tryz.prog 69 #[.agg #[.string z.name, .slice z.a1 z.deps.length z.c1, .slice z.a2 z.ops.length z.c2], .pointer (some ⟨g, 0, none⟩)] w fun e w' => e = .returned (.bool true) ∧ Below w.heap.size w w' := by
  obtain ⟨nm, za, zc, ds, ya, yc, os⟩ := z
  obtain rfl : ds = [] := hd
  obtain ⟨hb, hx⟩ := patb_box w (.string nm) (.slice za 0 zc) (.slice ya os.length yc)
  show Calls Tryz.prog 69 #[.agg #[.string nm, .slice za 0 zc, .slice ya os.length yc], .pointer (some ⟨g, 0, none⟩)] w _
  have HP := Lib.hid hx
  have HB := Lib.hid hb
  obtain ⟨h, c0, _⟩ := hV.on hb
  have C : Hid (∀ W, Calls Tryz.prog 85 #[.agg #[.string nm, .slice za 0 zc, .slice ya os.length yc], .pointer (some ⟨h, 0, none⟩)] W fun e w' => ∃ A c, e = .returned (.tuple #[.slice A 0 c, .bool true]) ∧ Below W.heap.size W w') := fun W => dunder1_none h ⟨nm, za, zc, [], ya, yc, os⟩ W rfl
  clear hb hx hV
  go_enter Tryz.func69, Tryz.ntmps69
  go_upto_region 1 with (fail)
  generalize (w.alloc (.cells #[.string nm, .slice za 0 zc, .slice ya os.length yc] 35)) = wb at *
  have p0 := HP.out.c0
  have p1 := HP.out.c1
  have p2 := HP.out.c2
  go_wp2_with fail
  refine (C.out _).mono ?_
  rintro e w1 ⟨A, c, rfl, hb1⟩
  have HB1 := Lib.hid (HB.out.trans (hb1.mono HB.out.size))
  have p1 := cell_on p1 hb1
  have hbm : Below w1.heap.size w1 (w1.alloc (.map #[] 0)) := (Below.refl _ _).alloc (Nat.le_refl _) _
  have p1m := cell_on p1 hbm
  have HB2 := Lib.hid (HB1.out.trans (hbm.mono HB1.out.size))
  have q1 : (Instr.makeMap 88 (some (.int .i64 0))).run Tryz.prog w1 = .ok (.map (some w1.heap.size)) (w1.alloc (.map #[] 0)) := mk_map Tryz.underlying88 0 w1
  clear hb1 C p0 p2 HP HB HB1 hbm c0
  go_wp2_with fail
  refine wp_loop_rounds 1 ?_
  rw [rounds_succ]
  go_wp2_with fail
  refine wp_loop_rounds 1 ?_
  rw [rounds_succ]
  go_wp2
  go_ret
  exact ⟨rfl, HB2.out⟩
set_option maxHeartbeats 8000000 in
set_option maxRecDepth 100000 in
theorem dclosed1_one (g m : Nat) (f : ByteArray → Option Value) (z y : Ptm) (d : List UInt8) (w : World) (hV : UnderV w g m f) (oz : z.Ok w w.heap.size) (hd : z.deps = [d]) (hl : d.length ≤ 9223372036854775807) (hf : f (toB d) = some (.agg #[.string y.name, .slice y.a1 y.deps.length y.c1, .slice y.a2 y.ops.length y.c2])) (hy : y.deps = []) (hyn : y.name.size ≤ 9223372036854775807) :
    Calls Tryz.prog 69 #[.agg #[.string z.name, .slice z.a1 z.deps.length z.c1, .slice z.a2 z.ops.length z.c2], .pointer (some ⟨g, 0, none⟩)] w fun e w' => e = .returned (.bool true) ∧ Below w.heap.size w w' := by
  obtain ⟨nm, za, zc, ds, ya, yc, os⟩ := z
  obtain rfl : ds = [d] := hd
  obtain ⟨yn, y1, yc1, yd, y2, yc2, yo⟩ := y
  obtain rfl : yd = [] := hy
  obtain ⟨hb, hx⟩ := patb_box w (.string nm) (.slice za 1 zc) (.slice ya os.length yc)
  show Calls Tryz.prog 69 #[.agg #[.string nm, .slice za 1 zc, .slice ya os.length yc], .pointer (some ⟨g, 0, none⟩)] w _
  have HP := Lib.hid hx
  have HB := Lib.hid hb
  obtain ⟨h, c0, hm⟩ := hV.on hb
  have HDS : Hid (Strs _ _ za (toBs [d])) := (oz.on hb).deps
  have C := Lib.hid (dunder1_one h m f ⟨nm, za, zc, [d], ya, yc, os⟩ ⟨yn, y1, yc1, [], y2, yc2, yo⟩ d _ hm (oz.on hb) rfl hl hf)
  have C : Hid (Calls Tryz.prog 85 #[.agg #[.string nm, .slice za 1 zc, .slice ya os.length yc], .pointer (some ⟨h, 0, none⟩)] _ fun e w' => ∃ A c, e = .returned (.tuple #[.slice A 1 c, .bool true]) ∧ patR.Own w' _ (.slice A 1 c) [⟨yn, y1, yc1, [], y2, yc2, yo⟩] ∧ Below _ _ w') := C.out
  have hzd : (toB d).size ≤ 9223372036854775807 := by rw [toB_size]; exact hl
  clear hb hx hV oz hm hf hl
  go_enter Tryz.func69, Tryz.ntmps69
  go_upto_region 1 with (fail)
  generalize (w.alloc (.cells #[.string nm, .slice za 1 zc, .slice ya os.length yc] 35)) = wb at *
  have p0 := HP.out.c0
  have p1 := HP.out.c1
  have p2 := HP.out.c2
  go_wp2_with fail
  refine C.out.mono ?_
  rintro e w1 ⟨A, c, rfl, ho, hb1⟩
  have HB1 := Lib.hid (HB.out.trans (hb1.mono HB.out.size))
  have p1 := cell_on p1 hb1
  rcases Rk.own_cases ho with ⟨e, h0⟩ | ⟨ga, cap, e, hBg, hblk⟩
  · cases h0
  simp only [Value.slice.injEq] at e
  obtain ⟨rfl, -, rfl⟩ := e
  have hbm : Below w1.heap.size w1 (w1.alloc (.map #[] 0)) := (Below.refl _ _).alloc (Nat.le_refl _) _
  have p1m := cell_on p1 hbm
  have HB2 := Lib.hid (HB1.out.trans (hbm.mono HB1.out.size))
  have q1 : (Instr.makeMap 88 (some (.int .i64 1))).run Tryz.prog w1 = .ok (.map (some w1.heap.size)) (w1.alloc (.map #[] 0)) := mk_map Tryz.underlying88 1 w1
  have HM2 := Lib.hid (StrMap.made w1)
  have HBU : Hid (w.heap.size ≤ w1.heap.size) := HB1.out.size
  obtain ⟨b0, off0, ea, hlt0, hc0⟩ := ((HDS.out.on hb1).on hbm).at_ (k := 0) (by simp [toBs])
  have hc1 : (w1.alloc (.map #[] 0)).cell? ⟨b0, off0, none⟩ = some (.string (toB d)) := by simpa [toBs] using hc0
  have hyc := fun (r : Nat) (u : Value) (hu : (patR.enc (⟨yn, y1, yc1, [], y2, yc2, yo⟩ : Ptm))[r]? = some u) => cell_on (by have h := hblk.cell (j := 0) (by simp) (r := r) (u := u) hu; rw [Nat.zero_mul, Nat.zero_add] at h; exact h) hbm
  rw [ea] at p1 p1m
  clear hb1 C p0 p2 HP HB HB1 hbm c0 ho HDS hblk hc0
  go_upto_region 5 with (fail)
  generalize (w1.alloc (.map #[] 0)) = w2 at *
  generalize w1.heap.size = bu at *
  generalize toB d = sd at *
  obtain ⟨w3, hput, hm3, hg3⟩ := StrMap.put 88 3 Tryz.underlying88 HM2.out hzd (by decide) (.int .i64 0)
  have p1x := StrMap.cell HM2.out hg3 p1m
  have hy0 := StrMap.cell HM2.out hg3 (hyc 0 _ rfl)
  have hy1 := StrMap.cell HM2.out hg3 (hyc 1 _ rfl)
  have hy2 := StrMap.cell HM2.out hg3 (hyc 2 _ rfl)
  have HB3 : Hid (Below w.heap.size w w3) := HB2.out.grown hg3 HB2.out.size (fun q hq => by simp only [Option.some.injEq] at hq; have := HBU.out; omega)
  obtain ⟨hby, hY⟩ := patb_box w3 (.string yn) (.slice y1 0 yc1) (.slice y2 yo.length yc2)
  have HB4 := Lib.hid (HB3.out.trans (hby.mono HB3.out.size))
  have hY0 := hY.c0
  have hY1 := hY.c1
  have hget : (Instr.lookup 88 (.map (some bu)) (.string yn) false).run Tryz.prog (w3.alloc (.cells #[.string yn, .slice y1 0 yc1, .slice y2 yo.length yc2] 35)) = .ok (.int .i64 0) (w3.alloc (.cells #[.string yn, .slice y1 0 yc1, .slice y2 yo.length yc2] 35)) := by
    by_cases e : yn = sd
    · exact StrMap.get 88 3 Tryz.underlying88 (zero_int _) (hm3.on hby) hyn (some (.int .i64 0)) (if_pos e)
    · exact StrMap.get 88 3 Tryz.underlying88 (zero_int _) (hm3.on hby) hyn none (if_neg e)
  have IA := pat_indexAt (c := c) (n := 1) (k := 0) (A := some ⟨ga, 0, none⟩) rfl (by decide)
  simp only [Nat.zero_mul, Nat.add_zero] at IA
  clear HM2 hm3 hg3 hby hY HB2 HB3 hyc
  -- @P2
  go_wp2_with fail
  refine wp_loop_rounds 2 ?_
  rw [rounds_succ]
  go_wp2_with fail
  rw [rounds_succ]
  go_wp2_with fail
  -- @P3
  refine wp_loop_rounds 2 ?_
  rw [rounds_succ]
  go_wp2_with fail
  refine wp_loop_rounds 1 ?_
  rw [rounds_succ]
  go_wp2_with fail
  rw [rounds_succ]
  go_wp2
  go_ret
  exact ⟨rfl, HB4.out⟩
end Go.Proofs.YtifkpelcdihdoaaGreatDoor
