/- Named's function; the library's DeleteFunc of ids that are of one patch. Package patch: Made, Named. -/
import Derived.ChangeOld
import Derived.SliceStrings
import Derived.WideShapes
import Derived.Deep.Slices
import Derived.Deep.Fields
import Derived.ChangeSame
import Derived.ChangeArms
import Derived.SizedLaws
import Derived.BigRegion
import Derived.Deep.RegionWith
import Derived.BigQuiet
import Derived.Deep.QuietTactic
import Derived.Handy
import Derived.Deep.CutRange
import Derived.Deep.RegionLaw
import Derived.Lib.QuietBelow
import Derived.Test.YtoajckhfnadhjaaGreatDoorCk16
import Derived.Test.YtoajckhfnadhjaaGreatDoorCk21
import Derived.Test.YtoajckhfnadhjaaGreatDoorCk22
namespace Go.Proofs.YtoajckhfnadhjaaGreatDoor
open Go.RowKit
set_option linter.unusedVariables false

set_option maxHeartbeats 1000000 in
set_option maxRecDepth 100000 in
theorem pown_any (gp : Nat) (nm : ByteArray) (x : Im) (w : World) (hP : w.cell? ⟨gp, 0, none⟩ = some (.string nm)) (r : Bool) (hr : decide (x.key.1 = nm.data.toList) = r) :
    Calls Tryz.prog 50 #[.agg #[.string x.p, .int .i64 x.n], .pointer (some ⟨gp, 0, none⟩)] w fun e w' => e = .returned (.bool r) ∧ Below w.heap.size w w' := by
  obtain ⟨hb, hx⟩ := id_box w x
  have HB := Lib.hid hb
  have HP := Lib.hid ((hb.cell (rec_cell_lt hP)).trans hP)
  have HX := Lib.hid hx
  clear hb hx hP
  go_enter Tryz.func50, Tryz.ntmps50
  go_upto_region 1 with (fail)
  generalize (w.alloc (.cells #[.string x.p, .int .i64 x.n] 40)) = wb at *
  have x0 := id_c0 HX.out
  have p0 := HP.out
  by_cases hp : x.p = nm
  · rw [decide_eq_true (show x.key.1 = nm.data.toList by rw [← hp]; rfl)] at hr
    obtain rfl : r = true := hr.symm
    have n1 : (x.p.toList == nm.toList) = true := by rw [hp]; exact str_eqb _
    clear hr hp
    go_wp2
    go_ret
    exact ⟨rfl, HB.out⟩
  · rw [decide_eq_false (show ¬ x.key.1 = nm.data.toList from fun e => hp (bytes_inj e))] at hr
    obtain rfl : r = false := hr.symm
    have n1 : (x.p.toList == nm.toList) = false := str_ne hp
    clear hr hp
    go_wp2
    go_ret
    exact ⟨rfl, HB.out⟩
/-- Where the first id of that patch stands. -/
def IsOf (nm : ByteArray) (l : List Im) (r : Int) : Prop := (∃ k, ∃ hk : k < l.length, r = (k : Int) ∧ (l[k]'hk).key.1 = nm.data.toList ∧ ∀ j (hj : j < l.length), j < k → l[j].key.1 ≠ nm.data.toList) ∨ (r = -1 ∧ ∀ j (hj : j < l.length), l[j].key.1 ≠ nm.data.toList)
def keepO (nm : ByteArray) (x : Im) : Bool := decide (x.key.1 ≠ nm.data.toList)
set_option maxHeartbeats 2000000 in
set_option maxRecDepth 100000 in
theorem ofindex_any (gp : Nat) (nm : ByteArray) (A : Option Addr) (l : List Im) (cap : Nat) (w : World) (hP : w.cell? ⟨gp, 0, none⟩ = some (.string nm)) (hs : Ids w w.heap.size A l) (hn : l.length ≤ 1000000) :
    Calls Tryz.prog 77 #[.slice A l.length cap, .func (.func 50) #[] #[.pointer (some ⟨gp, 0, none⟩)]] w fun e w' => ∃ r : Int, e = .returned (.int .i64 r) ∧ Hid (IsOf nm l r) ∧ Below w.heap.size w w' := by
  have HS := Lib.hid hs
  have HP := Lib.hid hP
  clear hs hP
  go_enter Tryz.func77, Tryz.ntmps77
  go_wp2
  go_loopw [8] (fun i wr => ∃ k : Nat, k ≤ l.length ∧ i = .int .i64 (k : Int) ∧ Hid (∀ j (hj : j < l.length), j < k → l[j].key.1 ≠ nm.data.toList) ∧ Hid (Below w.heap.size w wr)) (fun i _ => l.length - (intOf i).toNat)
  case atStart => exact ⟨0, Nat.zero_le _, rfl, fun j _ h => absurd h (by omega), Below.refl _ _⟩
  case round =>
    obtain ⟨k, hk, rfl, hall, hb⟩ := hrel
    by_cases hlt : k < l.length
    · have hS := HS.out.on hb.out
      obtain ⟨b, off, rfl, bl1, h1, h2⟩ := ids_get hS hlt
      have C := Lib.hid (fun (r : Bool) (hr : decide ((l[k]'hlt).key.1 = nm.data.toList) = r) => pown_any gp nm (l[k]'hlt) wr ((hb.out.cell (rec_cell_lt HP.out)).trans HP.out) r hr)
      by_cases he : l[k].key.1 = nm.data.toList
      · have hres : Hid (IsOf nm l (k : Int)) := .inl ⟨k, hlt, rfl, he, hall.out⟩
        replace C := Lib.hid (C.out true (decide_eq_true he))
        clear he hall hS
        generalize l[k] = y at *
        go_wp2_with fail
        refine C.out.mono ?_
        rintro e w1 ⟨rfl, hb1⟩
        have HB2 := Lib.hid (hb.out.trans (hb1.mono hb.out.size))
        clear hb1 C h1 h2
        go_wp2
        go_ret
        exact ⟨_, rfl, hres, HB2.out⟩
      · have hnew : Hid (∀ j (hj : j < l.length), j < k + 1 → l[j].key.1 ≠ nm.data.toList) := by
          intro j hj hjk
          by_cases e : j = k
          · subst e; exact he
          · exact hall.out j hj (by omega)
        replace C := Lib.hid (C.out false (decide_eq_false he))
        clear he hall hS
        generalize l[k] = y at h1 h2 C
        go_wp2_with fail
        refine C.out.mono ?_
        rintro e w1 ⟨rfl, hb1⟩
        have HB2 : Hid (Below w.heap.size w w1) := hb.out.trans (hb1.mono hb.out.size)
        clear hb1 C h1 h2
        go_wp2
        go_roundw
        case rel => exact ⟨k + 1, by omega, by go_num, hnew, HB2⟩
        case measure => simp [intOf]; omega
    · obtain rfl : k = l.length := by omega
      have hres : Hid (IsOf nm l (-1)) := .inr ⟨rfl, fun j hj => hall.out j hj hj⟩
      clear hall
      go_wp2
      go_ret
      exact ⟨_, rfl, hres, hb.out⟩
/-- What DeleteFunc has done up to j: those kept lie ahead of i. -/
structure MidO (nm : ByteArray) (fs d : List Im) (i j : Nat) : Prop where
  len : d.length = fs.length
  ij : i < j
  jn : j ≤ fs.length
  low : d.take i = (fs.take j).filter (keepO nm)
  high : ∀ t (h : t < d.length) (h2 : t < fs.length), j ≤ t → d[t] = fs[t]
theorem MidO.start {nm : ByteArray} {fs : List Im} {k : Nat} (hk : k < fs.length) (he : fs[k].key.1 = nm.data.toList) (hn : ∀ j (hj : j < fs.length), j < k → fs[j].key.1 ≠ nm.data.toList) : MidO nm fs fs k (k + 1) := by
  refine ⟨rfl, by omega, by omega, ?_, fun _ _ _ _ => rfl⟩
  rw [List.take_succ_eq_append_getElem hk, List.filter_append]
  have e1 : (fs.take k).filter (keepO nm) = fs.take k := by
    rw [List.filter_eq_self]
    intro f hf
    obtain ⟨j, hj, rfl⟩ := List.getElem_of_mem hf
    rw [List.length_take] at hj
    rw [List.getElem_take]
    exact decide_eq_true (hn j (by omega) (by omega))
  have e2 : [fs[k]].filter (keepO nm) = [] := by simp [keepO, he]
  rw [e1, e2, List.append_nil]
theorem MidO.skip {nm : ByteArray} {fs d : List Im} {i j : Nat} (m : MidO nm fs d i j) (hj : j < fs.length) (he : (fs[j]'hj).key.1 = nm.data.toList) : MidO nm fs d i (j + 1) := by
  refine ⟨m.len, by have := m.ij; omega, by omega, ?_, fun t h h2 h3 => m.high t h h2 (by omega)⟩
  rw [List.take_succ_eq_append_getElem hj, List.filter_append, m.low]
  have e2 : [fs[j]].filter (keepO nm) = [] := by simp [keepO, he]
  rw [e2, List.append_nil]
theorem MidO.keep {nm : ByteArray} {fs d : List Im} {i j : Nat} (m : MidO nm fs d i j) (hj : j < fs.length) (he : (fs[j]'hj).key.1 ≠ nm.data.toList) : MidO nm fs (d.set i (fs[j]'hj)) (i + 1) (j + 1) := by
  have hi := m.ij
  have hl := m.len
  refine ⟨by rw [List.length_set]; exact m.len, by omega, by omega, ?_, fun t h h2 h3 => ?_⟩
  · have e2 : [fs[j]].filter (keepO nm) = [fs[j]] := by simp [keepO, he]
    rw [List.take_succ_eq_append_getElem hj, List.filter_append, ← m.low, e2, List.take_succ_eq_append_getElem (by rw [List.length_set]; omega), List.getElem_set_self]
    congr 1
    rw [List.take_set_of_le (Nat.le_refl _)]
  · rw [List.getElem_set_ne (by omega)]
    rw [List.length_set] at h
    exact m.high t h h2 (by omega)
set_option maxHeartbeats 4000000 in
set_option maxRecDepth 100000 in
theorem ofdelete_any (gp : Nat) (nm : ByteArray) (g cap : Nat) (l : List Im) (w : World) (hP : w.cell? ⟨gp, 0, none⟩ = some (.string nm)) (hgp : gp ≠ g) (hblk : idR.Blk w g cap l) (hn : l.length ≤ 1000000) (m : Nat) (hm : m = (l.filter (keepO nm)).length) :
    Calls Tryz.prog 51 #[.slice (some ⟨g, 0, none⟩) l.length cap, .func (.func 50) #[] #[.pointer (some ⟨gp, 0, none⟩)]] w fun e w' =>
      e = .returned (.slice (some ⟨g, 0, none⟩) m cap) ∧ idR.Blk w' g cap (l.filter (keepO nm)) ∧ w.grownBy w' (some g) := by
  have CI := Lib.hid (ofindex_any gp nm (some ⟨g, 0, none⟩) l cap w hP hblk.row hn)
  have HR := Lib.hid hblk
  have HM := Lib.hid hm
  have HP := Lib.hid hP
  have HNE := Lib.hid hgp
  clear hblk hm hP hgp
  go_enter Tryz.func51, Tryz.ntmps51
  go_wp2_with fail
  refine CI.out.mono ?_
  rintro e w0 ⟨r, rfl, hr, hb0⟩
  have HR0 := Lib.hid (HR.out.on hb0)
  have HG0 : Hid (w.grownBy w0 (some g)) := Rk.grown_below (Rk.grown_refl w g) hb0
  clear hb0 CI HR
  rcases hr.out with ⟨k, hk, rfl, he, hno⟩ | ⟨rfl, hno⟩
  · have hst := Lib.hid (MidO.start hk he hno)
    have r1 : IntKind.i64.wrap ((k : Int) + 1) = (k : Int) + 1 := IntWalk.i64_in _ (by omega)
    have r2 : ((k : Int) == -1) = false := beq_eq_false_iff_ne.2 (by omega)
    clear he hno hr
    go_wp2
    go_loopw [5, 6] (fun s5 s6 wr => ∃ (i j : Nat) (d : List Im), s5 = .int .i64 (i : Int) ∧ s6 = .int .i64 (j : Int) ∧ j ≤ l.length ∧ Hid (MidO nm l d i j ∧ idR.Blk wr g cap d ∧ w.grownBy wr (some g))) (fun _ s6 _ => l.length - (intOf s6).toNat)
    case atStart => exact ⟨k, k + 1, l, rfl, by go_num, hst.out.jn, hst.out, HR0.out, HG0.out⟩
    case round =>
      clear HR0 HG0 hst r1 r2
      obtain ⟨i, j, d, rfl, rfl, hjn, HI⟩ := hrel
      by_cases hlt : j < l.length
      · obtain ⟨hm, hrow, hg⟩ := HI.out
        have hij := hm.ij
        have hjd : j < d.length := by rw [hm.len]; exact hlt
        have hid : i < d.length := by omega
        have hdj : d[j] = l[j] := hm.high j hjd hlt (Nat.le_refl _)
        have h1 : wr.cell? ⟨g, j * 2, none⟩ = some (.string d[j].p) := hrow.cell hjd (r := 0) rfl
        have h2 : wr.cell? ⟨g, j * 2 + 1, none⟩ = some (.int .i64 d[j].n) := hrow.cell hjd (r := 1) rfl
        obtain ⟨hal, hF⟩ := id_box wr d[j]
        have CA := fun (b : Bool) (hr : decide ((d[j]'hjd).key.1 = nm.data.toList) = b) => pown_any gp nm d[j] (wr.alloc (.cells #[.string d[j].p, .int .i64 d[j].n] 40)) ((hal.cell (rec_cell_lt (cell_far hg HP.out HNE.out))).trans (cell_far hg HP.out HNE.out)) b hr
        have HF := Lib.hid hF
        have HA := Lib.hid hal
        have HDJ := Lib.hid hdj
        have HID := Lib.hid hid
        have HRW := Lib.hid hrow
        have HG := Lib.hid hg
        by_cases hp : d[j].key.1 = nm.data.toList
        · have C := Lib.hid (CA true (decide_eq_true hp))
          have HM2 := Lib.hid (hm.skip hlt (by rw [← hdj]; exact hp))
          clear CA hp hm hrow hg hF hal hdj HI
          generalize d[j] = f at *
          go_upto_region 8 with (fail)
          have f0 := id_c0 HF.out
          have f1 := id_c1 HF.out
          generalize (wr.alloc (.cells #[.string f.p, .int .i64 f.n] 40)) = wx at *
          go_wp2_with fail
          refine C.out.mono ?_
          rintro e w2 ⟨rfl, hb2⟩
          have hbb := HA.out.trans (hb2.mono HA.out.size)
          have HN : Hid (MidO nm l d i (j + 1) ∧ idR.Blk w2 g cap d ∧ w.grownBy w2 (some g)) := ⟨HM2.out, HRW.out.on hbb, Rk.grown_below HG.out hbb⟩
          clear hb2 hbb h1 h2 f0 f1 C HF HA
          go_wp2
          go_roundw
          case rel => exact ⟨i, j + 1, d, rfl, by go_num, by omega, HN.out⟩
          case measure => simp [intOf]; omega
        · have C := Lib.hid (CA false (decide_eq_false hp))
          have HM2 := Lib.hid (hm.keep hlt (by rw [← hdj]; exact hp))
          clear CA hp hm hrow hg hF hal HI hdj
          generalize hdj : d[j] = f at *
          go_upto_region 8 with (fail)
          have f0 := id_c0 HF.out
          have f1 := id_c1 HF.out
          generalize (wr.alloc (.cells #[.string f.p, .int .i64 f.n] 40)) = wx at *
          go_wp2_with fail
          refine C.out.mono ?_
          rintro e w2 ⟨rfl, hb2⟩
          have hbb := HA.out.trans (hb2.mono HA.out.size)
          have hF2 := HF.out.on hb2
          have f0 := id_c0 hF2
          have f1 := id_c1 hF2
          have hR2 := HRW.out.on hbb
          have o0 : w2.cell? ⟨g, i * 2, none⟩ = some (.string d[i].p) := hR2.cell HID.out (r := 0) rfl
          have o1 : w2.cell? ⟨g, i * 2 + 1, none⟩ = some (.int .i64 d[i].n) := hR2.cell HID.out (r := 1) rfl
          have z0 := hR2.fz (i * 2)
          have z1 := hR2.fz (i * 2 + 1)
          have HN : Hid (MidO nm l (d.set i f) (i + 1) (j + 1) ∧ idR.Blk ((w2.setCell ⟨g, i * 2, none⟩ (.string f.p)).setCell ⟨g, i * 2 + 1, none⟩ (.int .i64 f.n)) g cap (d.set i f) ∧ w.grownBy ((w2.setCell ⟨g, i * 2, none⟩ (.string f.p)).setCell ⟨g, i * 2 + 1, none⟩ (.int .i64 f.n)) (some g)) :=
            ⟨by rw [HDJ.out]; exact HM2.out, hR2.put HID.out f, Rk.grown_both (Rk.grown_below HG.out hbb) (Rk.setCells_grown w2 g (i * 2) [.string f.p, .int .i64 f.n])⟩
          have u0 : (0 : Int) ≤ (i : Int) := by omega
          have u1 : (i : Int) < (l.length : Int) := by omega
          clear hb2 hbb h1 h2 hF2 hR2 hdj HDJ HM2 C HF HA
          generalize d[i].p = y0 at *
          generalize d[i].n = y1 at *
          go_wp2
          go_roundw
          case rel => exact ⟨i + 1, j + 1, d.set i f, by go_num, by go_num, by omega, HN.out⟩
          case measure => simp [intOf]; omega
      · obtain ⟨hm, hrow, hg⟩ := HI.out
        have hjn2 : j = l.length := by omega
        have hij := hm.ij
        have hdl := hm.len
        have hcap := hrow.len
        have hlow := hm.low
        rw [hjn2, List.take_length] at hlow
        have hmi : Hid (m = i) := by show _ = _; rw [HM.out, ← hlow, List.length_take]; omega
        have s1 : ∀ W, (Instr.slice 38 (.slice (some ⟨g, 0, none⟩) l.length cap) (some (.int .i64 (i : Int))) none none).run Tryz.prog W = .ok (.slice (some ⟨g, i * 2, none⟩) (l.length - i) (cap - i)) W := fun W => by
          have h := idR.run_slice (some ⟨g, 0, none⟩) l.length cap i l.length (some (.int .i64 (i : Int))) none W (by omega) (Nat.le_refl _) (by omega) (.inl rfl) (.inr ⟨rfl, rfl⟩)
          rw [if_neg (by omega), Option.map_some, rec_add, Nat.zero_add] at h
          exact h
        have s2 : ∀ W, (Instr.slice 38 (.slice (some ⟨g, 0, none⟩) l.length cap) none (some (.int .i64 (i : Int))) none).run Tryz.prog W = .ok (.slice (some ⟨g, 0, none⟩) i cap) W := fun W => by
          have h := idR.run_slice (some ⟨g, 0, none⟩) l.length cap 0 i none (some (.int .i64 (i : Int))) W (by omega) (by omega) (by omega) (.inr ⟨rfl, rfl⟩) (.inl rfl)
          rw [if_neg (by omega), Option.map_some, rec_add] at h
          exact h
        have hcl := clear_ids wr g cap d hrow i (l.length - i) (cap - i) (by omega) (by omega)
        have hti := hrow.take i (by omega)
        have hl : (d.take i).length = i := by rw [List.length_take]; omega
        have hcd := hti.cleared (Builtin.zeroCells #[.string ⟨#[]⟩, .int .i64 0] (l.length - i)).toList
        rw [hl, hlow] at hcd
        have hgg := Rk.grown_both hg (Rk.setCells_grown wr g (i * 2) (Builtin.zeroCells #[.string ⟨#[]⟩, .int .i64 0] (l.length - i)).toList)
        have HCD := Lib.hid hcd
        have HGG := Lib.hid hgg
        clear hcd hgg hti hl hlow hm hrow hg HI hij hdl hcap hjn2
        have hjn3 : ¬ (j : Int) < (l.length : Int) := by omega
        go_wp2
        go_ret
        rw [hmi.out]
        exact ⟨rfl, HCD.out, HGG.out⟩
  · have hfl : l.filter (keepO nm) = l := by
      rw [List.filter_eq_self]
      intro f hf
      obtain ⟨j, hj, rfl⟩ := List.getElem_of_mem hf
      exact decide_eq_true (hno j hj)
    have hme : Hid (m = l.length) := by show _ = _; rw [HM.out, hfl]
    have HFL := Lib.hid hfl
    clear hfl hno hr
    go_wp2
    go_ret
    rw [hme.out, HFL.out]
    exact ⟨rfl, HR0.out, HG0.out⟩
set_option maxHeartbeats 2000000 in
set_option maxRecDepth 100000 in
theorem ofdelete_nil (gp : Nat) (nm : ByteArray) (w : World) (hP : w.cell? ⟨gp, 0, none⟩ = some (.string nm)) :
    Calls Tryz.prog 51 #[.slice none 0 0, .func (.func 50) #[] #[.pointer (some ⟨gp, 0, none⟩)]] w fun e w' => e = .returned (.slice none 0 0) ∧ Below w.heap.size w w' := by
  have CI := Lib.hid (ofindex_any gp nm none [] 0 w hP Rk.Row.nil (Nat.zero_le _))
  go_enter Tryz.func51, Tryz.ntmps51
  go_wp2_with fail
  refine CI.out.mono ?_
  rintro e w0 ⟨r, rfl, hr, hb0⟩
  have hr1 : r = -1 := by
    rcases hr.out with ⟨k, hk, _⟩ | ⟨rfl, _⟩
    · exact absurd hk (by simp)
    · rfl
  subst hr1
  have HB := Lib.hid hb0
  clear hr hb0 CI
  go_wp2
  go_ret
  exact ⟨rfl, HB.out⟩
theorem keepo_keys (nm : ByteArray) (l : List Im) : ikeys (l.filter (keepO nm)) = (ikeys l).filter fun k => decide (k.1 ≠ nm.data.toList) := by
  unfold ikeys
  rw [List.filter_map]
  rfl
/-- DeleteFunc of a row of the call's own. -/
theorem ofdel_own (gp : Nat) (nm : ByteArray) (v : Value) (l : List Im) (B : Nat) (w : World) (hB : B ≤ w.heap.size) (hP : w.cell? ⟨gp, 0, none⟩ = some (.string nm)) (hgp : gp < B) (ho : OwnId w B v l) (hn : l.length ≤ 1000000) :
    Calls Tryz.prog 51 #[v, .func (.func 50) #[] #[.pointer (some ⟨gp, 0, none⟩)]] w fun e w' => ∃ A n c, e = .returned (.slice A n c) ∧ OwnId w' B (.slice A n c) (l.filter (keepO nm)) ∧ Below B w w' := by
  rcases Rk.own_cases ho with ⟨rfl, rfl⟩ | ⟨g, cap, rfl, hg, hb⟩
  · refine (ofdelete_nil gp nm w hP).mono ?_
    rintro e w' ⟨rfl, hb⟩
    exact ⟨none, 0, 0, rfl, Rk.Own.nil _ _, hb.mono hB⟩
  · refine (ofdelete_any gp nm g cap l w hP (by omega) hb hn _ rfl).mono ?_
    rintro e w' ⟨rfl, h1, h2⟩
    exact ⟨_, _, _, rfl, h1.own hg, (Below.refl B w).grown h2 hB fun k hk => by simp only [Option.some.injEq] at hk; omega⟩
end Go.Proofs.YtoajckhfnadhjaaGreatDoor
namespace Go.Proofs.YtoajckhfnadhjaaGreatDoor
open Go.RowKit
set_option linter.unusedVariables false

/-- What operations name of other patches. -/
def othersP (nm : List UInt8) (l : List OpK) : List Ik := (l.flatMap idsO).filter fun i => decide (i.1 ≠ nm)
theorem others_take (nm : List UInt8) (l : List Om) (k : Nat) (hk : k < l.length) : othersP nm (okeys (l.take (k + 1))) = othersP nm (okeys (l.take k)) ++ (idsO l[k].key).filter fun i => decide (i.1 ≠ nm) := by
  unfold othersP okeys
  rw [List.take_succ_eq_append_getElem hk, List.map_append, List.flatMap_append, List.filter_append]
  simp
theorem ids_few (o : OpK) (n : Nat) (h : o.dels.length ≤ n) : (idsO o).length ≤ n + 3 := by
  unfold idsO
  refine Nat.le_trans (setI_len _) (Nat.le_trans (List.length_filter_le _ _) ?_)
  unfold namedO
  split
  · simp
  · split
    · simp
    · split
      · simp
      · split
        · rw [List.length_append]; simp only [List.length_cons, List.length_nil]; omega
        · simp
theorem others_few (nm : List UInt8) (n : Nat) : ∀ l : List OpK, (∀ o ∈ l, o.dels.length ≤ n) → (othersP nm l).length ≤ (n + 3) * l.length
  | [], _ => by simp [othersP]
  | o :: l, h => by
    have h1 := others_few nm n l fun q hq => h q (List.mem_cons_of_mem _ hq)
    have h2 := ids_few o n (h o (by simp))
    have e : othersP nm (o :: l) = ((idsO o).filter fun i => decide (i.1 ≠ nm)) ++ othersP nm l := by simp [othersP]
    have h3 := List.length_filter_le (fun i : Ik => decide (i.1 ≠ nm)) (idsO o)
    rw [e, List.length_append, List.length_cons, Nat.mul_succ]
    omega
set_option maxHeartbeats 8000000 in
set_option maxRecDepth 100000 in
theorem pmade_any (x : Ptm) (w : World) (ox : x.Ok w w.heap.size) (hn : x.ops.length ≤ 100000) (hf : ∀ o ∈ x.ops, o.first ≤ 1099511627776) (hm : (madeP x.name.data.toList (okeys x.ops)).length ≤ 900000) :
    Calls Tryz.prog 18 #[.agg #[.string x.name, .slice x.a1 x.deps.length x.c1, .slice x.a2 x.ops.length x.c2]] w (IdsLeft w (madeP x.name.data.toList (okeys x.ops))) := by
  obtain ⟨hb, hx⟩ := pat_box w x
  have HP := Lib.hid hx
  have HB := Lib.hid hb
  have OX := Lib.hid (ox.on hb)
  have HF := Lib.hid hf
  have HMX := Lib.hid hm
  clear hb hx ox hf hm
  go_enter Tryz.func18, Tryz.ntmps18
  go_upto_region 1 with (fail)
  generalize (w.alloc (.cells #[.string x.name, .slice x.a1 x.deps.length x.c1, .slice x.a2 x.ops.length x.c2] 25)) = wb at *
  generalize (Value.agg #[.string x.name, .slice x.a1 x.deps.length x.c1, .slice x.a2 x.ops.length x.c2]) = vx
  have p2 := HP.out.c2
  have HNIL : Hid (OwnId wb wb.heap.size (.slice none 0 0) []) := Rk.Own.nil _ _
  have HG0 : Hid (Below wb.heap.size wb wb) := Below.refl _ _
  go_wp2_with fail
  go_loopw [3, 9] (fun v iv wr => ∃ (k : Nat) (A3 : Option Addr) (n3 c3 : Nat) (ot : List Im), v = .slice A3 n3 c3 ∧ iv = .int .i64 (k : Int) ∧ k ≤ x.ops.length ∧ Hid (n3 = ot.length) ∧ Hid (ikeys ot = madeP x.name.data.toList (okeys (x.ops.take k))) ∧ Hid (OwnId wr wb.heap.size (.slice A3 n3 c3) ot) ∧ Hid (Below wb.heap.size wb wr)) (fun _ iv _ => x.ops.length - (intOf iv).toNat)
  case atStart => exact ⟨0, none, 0, 0, [], rfl, rfl, Nat.zero_le _, rfl, rfl, HNIL.out, HG0.out⟩
  case round =>
    clear HNIL HG0 p2
    obtain ⟨k, A3, n3, c3, ot, rfl, rfl, hk, HN3, HT, HO, HG⟩ := hrel
    by_cases hlt : k < x.ops.length
    · have hS := OX.out.ops.on HG.out
      obtain ⟨b, off, hA, hbB, hcx⟩ := hS.1.get hlt
      have OX2 := Lib.hid (OX.out.ops.2 x.ops[k] (List.getElem_mem _))
      have HFO := Lib.hid (HF.out x.ops[k] (List.getElem_mem _))
      have HSTEP := Lib.hid (made_take x.name.data.toList x.ops k hlt)
      have HLEN : Hid (ot.length ≤ 900000) := by
        show _ ≤ _
        rw [← ikeys_len, HT.out, okeys_take]
        exact Nat.le_trans (made_take_len _ _ _) HMX.out
      have HLEN2 : Hid ((madeP x.name.data.toList (okeys (x.ops.take (k + 1)))).length ≤ 900000) := by
        show _ ≤ _
        rw [okeys_take]
        exact Nat.le_trans (made_take_len _ _ _) HMX.out
      obtain ⟨o, ho⟩ : ∃ o, x.ops[k] = o := ⟨_, rfl⟩
      rw [ho] at OX2 HFO HSTEP hcx
      have RX := Lib.hid (op_rng hcx)
      obtain ⟨hbx, hX⟩ := op_box wr o
      have HX := Lib.hid hX
      have HG1 := Lib.hid (HG.out.trans (hbx.mono HG.out.size))
      have HO1 := Lib.hid (Rk.Own.kept HO.out hbx)
      have u0 : (0 : Int) ≤ (k : Int) := by omega
      have u1 : (k : Int) < (x.ops.length : Int) := by omega
      rw [hA]
      clear hS hcx hbx hX ho hbB HG HO
      go_upto_region 5 with (refine wpList_load_mid rfl 42 _ rfl b (off + k * 16) rfl [.int .i64 o.kind, .string o.self.p, .int .i64 o.self.n, .string o.parent.p, .int .i64 o.parent.n, .string o.dst.p, .int .i64 o.dst.n, .string o.name, .string o.dname, .string o.left.p, .int .i64 o.left.n, .string o.right.p, .int .i64 o.right.n, .slice o.a1 o.dels.length o.c1, .int .i64 o.first, .slice o.a2 o.lines.length o.c2] _ RX.out Tryz.underlying42 rfl (by kernel_rfl) ?_)
      generalize (wr.alloc (.cells #[.int .i64 o.kind, .string o.self.p, .int .i64 o.self.n, .string o.parent.p, .int .i64 o.parent.n, .string o.dst.p, .int .i64 o.dst.n, .string o.name, .string o.dname, .string o.left.p, .int .i64 o.left.n, .string o.right.p, .int .i64 o.right.n, .slice o.a1 o.dels.length o.c1, .int .i64 o.first, .slice o.a2 o.lines.length o.c2] 42)) = wa at *
      generalize hgx : wr.heap.size = gx at *
      clear RX hgx
      generalize (Value.agg #[.int .i64 o.kind, .string o.self.p, .int .i64 o.self.n, .string o.parent.p, .int .i64 o.parent.n, .string o.dst.p, .int .i64 o.dst.n, .string o.name, .string o.dname, .string o.left.p, .int .i64 o.left.n, .string o.right.p, .int .i64 o.right.n, .slice o.a1 o.dels.length o.c1, .int .i64 o.first, .slice o.a2 o.lines.length o.c2]) = vo
      have p0 := (HP.out.on HG1.out).c0
      have CC := Lib.hid (opcomes_any x.name o wa (OX2.out.on HG1.out) HFO.out)
      -- @P1
      go_wp2_with ((with_reducible refine wpList_load_opw (.tmp 5) gx o HX.out ?_ ?_ ?_ ?_); rfl; rfl; rfl; simp only [Act.put, List.setIfInBounds_toArray, List.set_cons_zero, List.set_cons_succ, Om.val, Om.cells])
      refine CC.out.mono ?_
      rintro e w2 ⟨A4, n4, c4, l, rfl, hk4, ho4, hb2⟩
      obtain rfl := ho4.parts.1
      have HR4 := Lib.hid ho4.parts.2.1
      have HRM := Lib.hid ho4.parts.2.2.1
      have HG2 := Lib.hid (HG1.out.trans (hb2.mono HG1.out.size))
      have HO2 := Lib.hid (Rk.Own.kept HO1.out hb2)
      have HK : Hid (ikeys (ot ++ l) = madeP x.name.data.toList (okeys (x.ops.take (k + 1)))) := by
        show _ = _
        rw [ikeys_app, HT.out, hk4, HSTEP.out]
      have hle : ot.length + l.length ≤ 1000000 := by
        have h1 := HLEN2.out
        rw [← HK.out, ikeys_len, List.length_append] at h1
        omega
      obtain ⟨M, hM⟩ : ∃ M, M = ot.length + l.length := ⟨_, rfl⟩
      have HM := Lib.hid hM
      clear ho4 hk4 hb2 CC HX HG1 HO1 HSTEP HT p0 hM HLEN HLEN2
      go_wp2_with (at_builtin; refine idR.wpList_append rfl _ _ rfl wb.heap.size (.slice A3 n3 c3) ot l rfl HO2.out A4 c4 l.length rfl rfl HRM.out.1 HR4.out HG2.out.size hle M HM.out ?_)
      intro A6 c6 w6 ho hg
      have HO6 := Lib.hid ho
      have HG6 := Lib.hid (Rk.Own.app HG2.out HO2.out hg (Nat.le_refl _))
      have HM6 : Hid (M = (ot ++ l).length) := by show _ = _; rw [List.length_append, HM.out]
      clear ho hg HG2 HO2 HR4 HRM hle
      go_wp2
      go_roundw
      case rel => exact ⟨k + 1, A6, M, c6, ot ++ l, rfl, by go_num, by omega, HM6.out, HK.out, HO6.out, HG6.out⟩
      case measure => simp [intOf]; omega
    · have hke : k = x.ops.length := by omega
      have HFN : Hid (IdsLeft w (madeP x.name.data.toList (okeys x.ops)) (.returned (.slice A3 n3 c3)) wr) := by
        refine ⟨A3, n3, c3, ot, rfl, ?_, HO.out.lower HB.out.size, HB.out.trans (HG.out.mono HB.out.size)⟩
        rw [HT.out, hke, List.take_length]
      clear HT HO HG HF HMX HB
      go_wp2
      go_ret
      exact HFN.out
set_option maxHeartbeats 8000000 in
set_option maxRecDepth 100000 in
theorem pnamed_any (x : Ptm) (w : World) (ox : x.Ok w w.heap.size) (hn : x.ops.length ≤ 100) (hf : ∀ o ∈ x.ops, o.dels.length ≤ 100) :
    Calls Tryz.prog 20 #[.agg #[.string x.name, .slice x.a1 x.deps.length x.c1, .slice x.a2 x.ops.length x.c2]] w (IdsLeft w (namedP x.key)) := by
  obtain ⟨hb, hx⟩ := pat_box w x
  have HP := Lib.hid hx
  have HB := Lib.hid hb
  have OX := Lib.hid (ox.on hb)
  have HF := Lib.hid hf
  have HMX : Hid ((othersP x.name.data.toList (okeys x.ops)).length ≤ 10300) := by
    have h := others_few x.name.data.toList 100 (okeys x.ops) (fun o ho => by
      obtain ⟨y, hy, rfl⟩ := List.mem_map.1 ho
      have h1 := hf y hy
      rwa [show y.key.dels.length = y.dels.length from ikeys_len _])
    rw [okeys_len] at h
    show _ ≤ _
    omega
  clear hb hx ox hf
  go_enter Tryz.func20, Tryz.ntmps20
  go_upto_region 1 with (fail)
  have HBS : Hid (w.heap.size < (w.alloc (.cells #[.string x.name, .slice x.a1 x.deps.length x.c1, .slice x.a2 x.ops.length x.c2] 25)).heap.size) := by show _ < _; simp
  generalize (w.alloc (.cells #[.string x.name, .slice x.a1 x.deps.length x.c1, .slice x.a2 x.ops.length x.c2] 25)) = wb at *
  generalize (Value.agg #[.string x.name, .slice x.a1 x.deps.length x.c1, .slice x.a2 x.ops.length x.c2]) = vx
  have p2 := HP.out.c2
  have HNIL : Hid (OwnId wb wb.heap.size (.slice none 0 0) []) := Rk.Own.nil _ _
  have HG0 : Hid (Below wb.heap.size wb wb) := Below.refl _ _
  go_wp2_with fail
  go_loopw [4, 11] (fun v iv wr => ∃ (k : Nat) (A3 : Option Addr) (n3 c3 : Nat) (ot : List Im), v = .slice A3 n3 c3 ∧ iv = .int .i64 (k : Int) ∧ k ≤ x.ops.length ∧ Hid (n3 = ot.length) ∧ Hid (ikeys ot = othersP x.name.data.toList (okeys (x.ops.take k))) ∧ Hid (OwnId wr wb.heap.size (.slice A3 n3 c3) ot) ∧ Hid (Below wb.heap.size wb wr)) (fun _ iv _ => x.ops.length - (intOf iv).toNat)
  case atStart => exact ⟨0, none, 0, 0, [], rfl, rfl, Nat.zero_le _, rfl, rfl, HNIL.out, HG0.out⟩
  case round =>
    clear HNIL HG0 p2
    obtain ⟨k, A3, n3, c3, ot, rfl, rfl, hk, HN3, HT, HO, HG⟩ := hrel
    have HLEN : Hid (ot.length ≤ 10300) := by
      show _ ≤ _
      have h := others_few x.name.data.toList 100 (okeys (x.ops.take k)) (fun o ho => by
        obtain ⟨y, hy, rfl⟩ := List.mem_map.1 ho
        have h1 := HF.out y (List.mem_of_mem_take hy)
        rwa [show y.key.dels.length = y.dels.length from ikeys_len _])
      rw [← HT.out, ikeys_len, okeys_len, List.length_take] at h
      omega
    by_cases hlt : k < x.ops.length
    · have hS := OX.out.ops.on HG.out
      obtain ⟨b, off, hA, hbB, hcx⟩ := hS.1.get hlt
      have OX2 := Lib.hid (OX.out.ops.2 x.ops[k] (List.getElem_mem _))
      have HFO := Lib.hid (HF.out x.ops[k] (List.getElem_mem _))
      have HSTEP := Lib.hid (others_take x.name.data.toList x.ops k hlt)
      obtain ⟨o, ho⟩ : ∃ o, x.ops[k] = o := ⟨_, rfl⟩
      rw [ho] at OX2 HFO HSTEP hcx
      have RX := Lib.hid (op_rng hcx)
      obtain ⟨hbx, hX⟩ := op_box wr o
      have HX := Lib.hid hX
      have HG1 := Lib.hid (HG.out.trans (hbx.mono HG.out.size))
      have HO1 := Lib.hid (Rk.Own.kept HO.out hbx)
      have u0 : (0 : Int) ≤ (k : Int) := by omega
      have u1 : (k : Int) < (x.ops.length : Int) := by omega
      rw [hA]
      clear hS hcx hbx hX ho hbB HG HO
      go_upto_region 6 with (refine wpList_load_mid rfl 42 _ rfl b (off + k * 16) rfl [.int .i64 o.kind, .string o.self.p, .int .i64 o.self.n, .string o.parent.p, .int .i64 o.parent.n, .string o.dst.p, .int .i64 o.dst.n, .string o.name, .string o.dname, .string o.left.p, .int .i64 o.left.n, .string o.right.p, .int .i64 o.right.n, .slice o.a1 o.dels.length o.c1, .int .i64 o.first, .slice o.a2 o.lines.length o.c2] _ RX.out Tryz.underlying42 rfl (by kernel_rfl) ?_)
      generalize (wr.alloc (.cells #[.int .i64 o.kind, .string o.self.p, .int .i64 o.self.n, .string o.parent.p, .int .i64 o.parent.n, .string o.dst.p, .int .i64 o.dst.n, .string o.name, .string o.dname, .string o.left.p, .int .i64 o.left.n, .string o.right.p, .int .i64 o.right.n, .slice o.a1 o.dels.length o.c1, .int .i64 o.first, .slice o.a2 o.lines.length o.c2] 42)) = wa at *
      generalize hgx : wr.heap.size = gx at *
      clear RX hgx
      generalize (Value.agg #[.int .i64 o.kind, .string o.self.p, .int .i64 o.self.n, .string o.parent.p, .int .i64 o.parent.n, .string o.dst.p, .int .i64 o.dst.n, .string o.name, .string o.dname, .string o.left.p, .int .i64 o.left.n, .string o.right.p, .int .i64 o.right.n, .slice o.a1 o.dels.length o.c1, .int .i64 o.first, .slice o.a2 o.lines.length o.c2]) = vo
      have HP1 := Lib.hid ((HP.out.on HG1.out).c0)
      have CC := Lib.hid (opidset_any o wa (OX2.out.on HG1.out) (by have := HFO.out; omega))
      have HL4 : Hid ((idsO o.key).length ≤ 103) := ids_few o.key 100 (by rw [show o.key.dels.length = o.dels.length from ikeys_len _]; exact HFO.out)
      -- @P2
      go_wp2_with ((with_reducible refine wpList_load_opw (.tmp 6) gx o HX.out ?_ ?_ ?_ ?_); rfl; rfl; rfl; simp only [Act.put, List.setIfInBounds_toArray, List.set_cons_zero, List.set_cons_succ, Om.val, Om.cells])
      refine CC.out.mono ?_
      rintro e w2 ⟨A4, n4, c4, l, rfl, hk4, ho4, hb2⟩
      have hll : l.length ≤ 103 := by rw [← ikeys_len, hk4]; exact HL4.out
      have HBB := Lib.hid hb2
      have HK4 := Lib.hid hk4
      have CD := Lib.hid (ofdel_own w.heap.size x.name (.slice A4 n4 c4) l wa.heap.size w2 hb2.size ((hb2.cell (rec_cell_lt HP1.out)).trans HP1.out) (rec_cell_lt HP1.out) ho4 (by omega))
      clear ho4 hk4 hb2 CC HX HP1
      -- @P3
      go_wp2_with fail
      refine CD.out.mono ?_
      rintro e w3 ⟨A5, n5, c5, rfl, ho5, hb3⟩
      obtain rfl := ho5.parts.1
      have hlf : (l.filter (keepO x.name)).length ≤ 103 := Nat.le_trans (List.length_filter_le _ _) hll
      have HK : Hid (ikeys (ot ++ l.filter (keepO x.name)) = othersP x.name.data.toList (okeys (x.ops.take (k + 1)))) := by
        show _ = _
        rw [ikeys_app, HT.out, keepo_keys, HK4.out, HSTEP.out]
      have HO3 := Lib.hid (Rk.Own.kept HO1.out (HBB.out.trans hb3))
      have HG3 := Lib.hid (HG1.out.trans ((HBB.out.trans hb3).mono HG1.out.size))
      obtain ⟨lf, hlfe⟩ : ∃ lf, l.filter (keepO x.name) = lf := ⟨_, rfl⟩
      rw [hlfe] at ho5 hlf HK
      rw [hlfe]
      have HR5 := Lib.hid ho5.parts.2.1
      have HRM := Lib.hid ho5.parts.2.2.1
      have hle : ot.length + lf.length ≤ 1000000 := by have := HLEN.out; omega
      obtain ⟨M, hM⟩ : ∃ M, M = ot.length + lf.length := ⟨_, rfl⟩
      have HM := Lib.hid hM
      clear ho5 hb3 CD HO1 HG1 HBB HSTEP HT HK4 hM hlfe hlf hll
      go_wp2_with (at_builtin; refine idR.wpList_append rfl _ _ rfl wb.heap.size (.slice A3 n3 c3) ot lf rfl HO3.out A5 c5 lf.length rfl rfl HRM.out.1 HR5.out HG3.out.size hle M HM.out ?_)
      intro A6 c6 w6 ho hg
      have HO6 := Lib.hid ho
      have HG6 := Lib.hid (Rk.Own.app HG3.out HO3.out hg (Nat.le_refl _))
      have HM6 : Hid (M = (ot ++ lf).length) := by show _ = _; rw [List.length_append, HM.out]
      clear ho hg HG3 HO3 HR5 HRM hle
      go_wp2
      go_roundw
      case rel => exact ⟨k + 1, A6, M, c6, ot ++ lf, rfl, by go_num, by omega, HM6.out, HK.out, HO6.out, HG6.out⟩
      case measure => simp [intOf]; omega
    · have hke : k = x.ops.length := by omega
      have hno : ikeys ot = othersP x.name.data.toList (okeys x.ops) := by rw [HT.out, hke, List.take_length]
      have HNO := Lib.hid hno
      obtain rfl := HN3.out
      have CS := Lib.hid (idset_any A3 ot c3 wr HO.out.parts.2.1 HO.out.parts.2.2.1 (by have := HLEN.out; omega))
      clear hno HT hke
      go_wp2_with fail
      refine CS.out.mono ?_
      rintro e w3 ⟨A4, n4, c4, l4, rfl, hk4, ho4, hb4⟩
      have hB3 := HB.out.trans (HG.out.mono HB.out.size)
      have HFN : Hid (IdsLeft w (namedP x.key) (.returned (.slice A4 n4 c4)) w3) := by
        refine ⟨A4, n4, c4, l4, rfl, ?_, ho4.lower hB3.size, hB3.trans (hb4.mono hB3.size)⟩
        rw [hk4, HNO.out]
        rfl
      clear hk4 ho4 hb4 hB3 CS HO HG HF HMX HB
      go_wp2
      go_ret
      exact HFN.out
end Go.Proofs.YtoajckhfnadhjaaGreatDoor
