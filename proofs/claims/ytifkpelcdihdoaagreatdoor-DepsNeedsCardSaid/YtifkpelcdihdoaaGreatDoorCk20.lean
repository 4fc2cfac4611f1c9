/- Package deps: patches of names, patches that names are used by; those of which something is so. -/
import Derived.Test.YtifkpelcdihdoaaGreatDoorProg
import Derived.WalkKit
import Derived.WalkSpells
import Derived.Handy
import Derived.Lib.Hide
import Derived.Shelf.Strings.BuilderK
import Derived.BigQuiet
import Derived.Deep.QuietTactic
import Derived.Lib.AtoiAllCases
import Derived.Lib.ItoaMem
import Derived.Test.YtifkpelcdihdoaaGreatDoorShelf
import Derived.Deep.RegionHeld3
import Derived.Deep.CutRange
import Derived.Lib.AppendIntMem
import Derived.BigRegion
import Derived.Deep.RegionWith
import Derived.Lib.QuietBelow
import Derived.Deep.MidRow
import Derived.Laws.EntriesVeiled
import Derived.Test.YtifkpelcdihdoaaGreatDoorCk19
namespace Go.Proofs.YtifkpelcdihdoaaGreatDoor
open Go.RowKit
set_option linter.unusedVariables false

/-- A variable that holds among's function for these texts. -/
def AmongV (w : World) (g : Nat) (ns : List (List UInt8)) : Prop := ∃ h, w.cell? ⟨g, 0, none⟩ = some (.func (.func 51) #[] #[.pointer (some ⟨h, 0, none⟩)]) ∧ SetV w h ns.length ns
theorem AmongV.on {w w' : World} {g : Nat} {ns : List (List UInt8)} (h : AmongV w g ns) (hb : Below w.heap.size w w') : AmongV w' g ns := by
  obtain ⟨b, h1, h2⟩ := h
  exact ⟨b, cell_on h1 hb, h2.on hb⟩
theorem amongV_box {w : World} {h : Nat} {ns : List (List UInt8)} (hs : SetV w h ns.length ns) : AmongV (w.alloc (.cells #[.func (.func 51) #[] #[.pointer (some ⟨h, 0, none⟩)]] 51)) w.heap.size ns :=
  ⟨h, by rw [World.cell?_alloc_new]; rfl, hs.on (below_box _)⟩
set_option maxRecDepth 100000 in
theorem dcalled_any (B : Option Addr) (ns : List (List UInt8)) (d : Nat) (w : World) (hs : Strs w w.heap.size B (toBs ns)) (hn : ns.length ≤ 100000) (hl : ∀ x ∈ ns, x.length ≤ 9223372036854775807) :
    Calls Tryz.prog 26 #[.slice B ns.length d] w fun e w' => ∃ g, e = .returned (.func (.func 49) #[] #[.pointer (some ⟨g, 0, none⟩)]) ∧ AmongV w' g ns ∧ Below w.heap.size w w' := by
  have C := Lib.hid (damong_any B ns d w hs hn hl)
  clear hs hl
  go_enter Tryz.func26, Tryz.ntmps26
  go_wp2_with fail
  refine C.out.mono ?_
  rintro e w1 ⟨h, rfl, hs1, hb1⟩
  have HV := Lib.hid (amongV_box hs1)
  have HB := Lib.hid (hb1.trans ((below_box #[.func (.func 51) #[] #[.pointer (some ⟨h, 0, none⟩)]] (t := 51)).mono hb1.size))
  clear hs1 hb1 C
  go_wp2
  go_ret
  exact ⟨_, rfl, HV.out, HB.out⟩
set_option maxHeartbeats 1000000 in
set_option maxRecDepth 100000 in
theorem dcalled1_any (g : Nat) (ns : List (List UInt8)) (x : Ptm) (w : World) (hV : AmongV w g ns) (hz : x.name.size ≤ 9223372036854775807) (r : Bool) (hr : decide (x.name.data.toList ∈ ns) = r) :
    Calls Tryz.prog 49 #[.agg #[.string x.name, .slice x.a1 x.deps.length x.c1, .slice x.a2 x.ops.length x.c2], .pointer (some ⟨g, 0, none⟩)] w fun e w' => e = .returned (.bool r) ∧ Below w.heap.size w w' := by
  obtain ⟨hb, hx⟩ := pat_box w x
  have HP := Lib.hid hx
  have HB := Lib.hid hb
  obtain ⟨h, c0, hS⟩ := hV.on hb
  have C := Lib.hid (damong1_any h ns.length ns x.name _ hS hz r hr)
  clear hb hx hS hr hV
  go_enter Tryz.func49, Tryz.ntmps49
  go_upto_region 1 with (fail)
  generalize (w.alloc (.cells #[.string x.name, .slice x.a1 x.deps.length x.c1, .slice x.a2 x.ops.length x.c2] 35)) = wb at *
  have p0 := HP.out.c0
  go_wp2_with fail
  refine C.out.mono ?_
  rintro e w1 ⟨rfl, hb1⟩
  have HF := Lib.hid (HB.out.trans (hb1.mono HB.out.size))
  clear hb1 C
  go_wp2
  go_ret
  exact ⟨rfl, HF.out⟩
set_option maxHeartbeats 1000000 in
set_option maxRecDepth 100000 in
theorem dusers1_any (g : Nat) (ns : List (List UInt8)) (x : Ptm) (w : World) (hV : AmongV w g ns) (ox : x.Ok w w.heap.size) (hz : x.name.size ≤ 9223372036854775807) (hd : x.deps.length ≤ 1000000) (hdl : ∀ d ∈ x.deps, d.length ≤ 9223372036854775807) (r : Bool) (hr : (decide (x.name.data.toList ∈ ns) || x.deps.any fun n => decide (n ∈ ns)) = r) :
    Calls Tryz.prog 29 #[.agg #[.string x.name, .slice x.a1 x.deps.length x.c1, .slice x.a2 x.ops.length x.c2], .pointer (some ⟨g, 0, none⟩)] w fun e w' => e = .returned (.bool r) ∧ Below w.heap.size w w' := by
  obtain ⟨hb, hx⟩ := pat_box w x
  have HP := Lib.hid hx
  have HB := Lib.hid hb
  have OX := Lib.hid (ox.on hb)
  obtain ⟨h, c0, hS⟩ := hV.on hb
  have HS := Lib.hid hS
  obtain ⟨t, ht⟩ : ∃ t, decide (x.name.data.toList ∈ ns) = t := ⟨_, rfl⟩
  obtain ⟨u, hu⟩ : ∃ u, (x.deps.any fun n => decide (n ∈ ns)) = u := ⟨_, rfl⟩
  rw [ht, hu] at hr
  have C := Lib.hid (damong1_any h ns.length ns x.name _ hS hz t ht)
  have C2 := Lib.hid (fun W (hW : Below (w.alloc (.cells #[.string x.name, .slice x.a1 x.deps.length x.c1, .slice x.a2 x.ops.length x.c2] 35)).heap.size (w.alloc (.cells #[.string x.name, .slice x.a1 x.deps.length x.c1, .slice x.a2 x.ops.length x.c2] 35)) W) => damong_contains h ns.length ns x.a1 x.deps x.c1 W (HS.out.on hW) (OX.out.deps.on hW) hd hdl u hu)
  clear hb hx hS ht hu hV ox HS OX
  go_enter Tryz.func29, Tryz.ntmps29
  go_upto_region 1 with (fail)
  generalize (w.alloc (.cells #[.string x.name, .slice x.a1 x.deps.length x.c1, .slice x.a2 x.ops.length x.c2] 35)) = wb at *
  have p0 := HP.out.c0
  have p1 := HP.out.c1
  -- @P1
  cases t
  · go_wp2_with fail
    refine C.out.mono ?_
    rintro e w1 ⟨rfl, hb1⟩
    have C3 := Lib.hid (C2.out _ hb1)
    have HB1 := Lib.hid (HB.out.trans (hb1.mono HB.out.size))
    have p1 := cell_on p1 hb1
    have c0 := cell_on c0 hb1
    have HR : Hid (u = r) := hr
    clear hb1 C C2 HP hr
    go_wp2_with fail
    refine C3.out.mono ?_
    rintro e w2 ⟨rfl, hb2⟩
    have HF := Lib.hid (HB1.out.trans (hb2.mono HB1.out.size))
    clear hb2 C3
    go_wp2
    go_ret
    rw [← HR.out]
    exact ⟨rfl, HF.out⟩
  · have q9 : r = true := by rw [← hr]; rfl
    subst q9
    clear hr C2
    go_wp2_with fail
    refine C.out.mono ?_
    rintro e w1 ⟨rfl, hb1⟩
    have HF := Lib.hid (HB.out.trans (hb1.mono HB.out.size))
    clear hb1 C
    go_wp2
    go_ret
    exact ⟨rfl, HF.out⟩
set_option maxHeartbeats 4000000 in
set_option maxRecDepth 100000 in
theorem those_called (g : Nat) (ns : List (List UInt8)) (A : Option Addr) (l : List Ptm) (c : Nat) (w : World) (hV : AmongV w g ns) (hs : Pats w w.heap.size A l) (hn : l.length ≤ 100000) (hz : ∀ x ∈ l, x.name.size ≤ 9223372036854775807) :
    Calls Tryz.prog 25 #[.slice A l.length c, .func (.func 49) #[] #[.pointer (some ⟨g, 0, none⟩)]] w fun e w' => ∃ A3 c3, e = .returned (.slice A3 (l.filter fun x => decide (x.name.data.toList ∈ ns)).length c3) ∧ patR.Own w' w.heap.size (.slice A3 (l.filter fun x => decide (x.name.data.toList ∈ ns)).length c3) (l.filter fun x => decide (x.name.data.toList ∈ ns)) ∧ Below w.heap.size w w' := by
  obtain ⟨q, hq⟩ : ∃ q : Ptm → Bool, (fun x : Ptm => decide (x.name.data.toList ∈ ns)) = q := ⟨_, rfl⟩
  have HC := Lib.hid (fun (x : Ptm) (hx : x ∈ l) (W : World) (hW : Below w.heap.size w W) (ox : x.Ok W W.heap.size) (r : Bool) (hr : q x = r) => dcalled1_any g ns x W (hV.on hW) (hz x hx) r (by rw [← hr, ← hq]))
  rw [hq]
  have HS := Lib.hid hs
  have HNIL : Hid (patR.Own w w.heap.size (.slice none 0 0) (([] : List Ptm).filter q)) := Rk.Own.nil _ _
  clear hs hz hV hq
  go_enter Tryz.func25, Tryz.ntmps25
  go_wp2_with fail
  go_loopw [5, 10] (fun v i wr => ∃ (k : Nat) (A3 : Option Addr) (n3 c3 : Nat), v = .slice A3 n3 c3 ∧ k ≤ l.length ∧ i = .int .i64 (k : Int) ∧ Hid (n3 = ((l.take k).filter q).length) ∧ Hid (patR.Own wr w.heap.size (.slice A3 n3 c3) ((l.take k).filter q)) ∧ Hid (Below w.heap.size w wr)) (fun _ i _ => l.length - (intOf i).toNat)
  case atStart => exact ⟨0, none, 0, 0, rfl, Nat.zero_le _, rfl, rfl, HNIL.out, Below.refl _ _⟩
  case round =>
    clear HNIL
    obtain ⟨k, A3, n3, c3, rfl, hk, rfl, HN3, HO, HG⟩ := hrel
    by_cases hlt : k < l.length
    · obtain ⟨b, off, rfl, hbB, hcx⟩ := (HS.out.on HG.out).1.get hlt
      have HST : Hid ((l.take (k + 1)).filter q = (l.take k).filter q ++ (if q l[k] then [l[k]] else [])) := by
        show _ = _
        rw [List.take_succ_eq_append_getElem hlt, List.filter_append]
        congr 1
        by_cases h : q l[k] = true
        · simp [h]
        · simp [h]
      have HLE : Hid (((l.take k).filter q).length ≤ k) := Nat.le_trans (List.length_filter_le _ _) (by rw [List.length_take]; omega)
      have IA := pat_indexAt (c := c) (A := some ⟨b, off, none⟩) rfl hlt
      have hok := (HS.out.on HG.out).ok hlt
      have HCX := Lib.hid (HC.out l[k] (List.getElem_mem hlt))
      have u0 : (0 : Int) ≤ (k : Int) := by omega
      have u1 : (k : Int) < (l.length : Int) := by omega
      generalize l[k] = x at *
      have RX := Lib.hid (pat_rng hcx)
      obtain ⟨hbx, hX⟩ := pat_box wr x
      have HX := Lib.hid hX
      have HG1 := Lib.hid (HG.out.trans (hbx.mono HG.out.size))
      have HO1 := Lib.hid (Rk.Own.kept HO.out hbx)
      obtain ⟨t, ht⟩ : ∃ t, q x = t := ⟨_, rfl⟩
      have C1 := Lib.hid (HCX.out _ HG1.out (hok.on hbx) t ht)
      rw [ht] at HST
      clear hcx hbB hbx hX HG HO ht hok HCX
      go_upto_region 5 with ((with_reducible refine wpList_load_patw (.tmp 12) b (off + k * 3) x RX.out ?_ ?_ ?_ ?_); rfl; rfl; rfl; simp only [Act.put, List.setIfInBounds_toArray, List.set_cons_zero, List.set_cons_succ])
      generalize (wr.alloc (.cells #[.string x.name, .slice x.a1 x.deps.length x.c1, .slice x.a2 x.ops.length x.c2] 35)) = wa at *
      generalize wr.heap.size = gx at *
      have RB := Lib.hid (pat_range HX.out)
      clear RX IA HX
      -- @P1
      go_wp2_with ((with_reducible refine wpList_load_patw (.tmp 7) gx 0 x RB.out ?_ ?_ ?_ ?_); rfl; rfl; rfl; simp only [Act.put, List.setIfInBounds_toArray, List.set_cons_zero, List.set_cons_succ])
      refine C1.out.mono ?_
      rintro e w4 ⟨rfl, hb4⟩
      have HG4 := Lib.hid (HG1.out.trans (hb4.mono HG1.out.size))
      have RB4 := Lib.hid (range_on RB.out hb4)
      have HO4 := Lib.hid (Rk.Own.kept HO1.out hb4)
      clear hb4 HG1 RB HO1 C1
      cases t
      · rw [if_neg Bool.false_ne_true, List.append_nil] at HST
        go_wp2
        go_roundw
        case rel => exact ⟨k + 1, A3, n3, c3, rfl, by omega, by go_num, by rw [HST.out]; exact HN3.out, by rw [HST.out]; exact HO4.out, HG4.out⟩
        case measure => simp [intOf]; omega
      · rw [if_pos rfl] at HST
        have HAL := Lib.hid (Rk.At.new_ (R := patR) w4 x)
        have hB1 : Below w4.heap.size w4 (w4.alloc (.cells (patR.enc x).toArray patR.ty)) := (Below.refl _ _).alloc (Nat.le_refl _) _
        have HO5 := Lib.hid (Rk.Own.kept HO4.out hB1)
        have HG5 := Lib.hid (HG4.out.trans (hB1.mono HG4.out.size))
        have hle : ((l.take k).filter q).length + [x].length ≤ 1000000 := by have := HLE.out; simp only [List.length_cons, List.length_nil]; omega
        have HM3 : Hid (n3 + 1 = ((l.take k).filter q).length + [x].length) := by have := HN3.out; show _ = _; simp only [List.length_cons, List.length_nil]; omega
        clear hB1 HO4
        generalize (l.take k).filter q = o at *
        -- @P2
        go_wp2_with (first | ((with_reducible refine wpList_load_patw (.tmp 7) gx 0 x RB4.out ?_ ?_ ?_ ?_); rfl; rfl; rfl; simp only [Act.put, List.setIfInBounds_toArray, List.set_cons_zero, List.set_cons_succ]) | (at_builtin; refine Rk.wpList_append patR rfl _ _ rfl w.heap.size _ o [x] rfl HO5.out (some ⟨w4.heap.size, 0, none⟩) 1 1 rfl rfl (fun e => by cases e) (HAL.out.row) HG5.out.size hle (n3 + 1) HM3.out ?_))
        intro A' c' w6 ho2 hg2
        have HB2 := Lib.hid (Rk.Own.app HG5.out HO5.out hg2 (Nat.le_refl _))
        have HO2 := Lib.hid ho2
        clear ho2 hg2 HO5 HAL HG5 RB4 HG4
        go_wp2
        go_roundw
        case rel => exact ⟨k + 1, A', _, c', rfl, by omega, by go_num, by rw [HST.out, List.length_append]; exact HM3.out, by rw [HST.out]; exact HO2.out, HB2.out⟩
        case measure => simp [intOf]; omega
    · have hke : l.take k = l := List.take_of_length_le (by omega)
      rw [hke] at HN3 HO
      have h3 := HN3.out
      subst h3
      go_wp2
      go_ret
      exact ⟨A3, c3, rfl, HO.out, HG.out⟩
set_option maxHeartbeats 4000000 in
set_option maxRecDepth 100000 in
theorem those_users (g : Nat) (ns : List (List UInt8)) (A : Option Addr) (l : List Ptm) (c : Nat) (w : World) (hV : AmongV w g ns) (hs : Pats w w.heap.size A l) (hn : l.length ≤ 100000) (hz : ∀ x ∈ l, x.name.size ≤ 9223372036854775807) (hd : ∀ x ∈ l, x.deps.length ≤ 1000000) (hdl : ∀ x ∈ l, ∀ d ∈ x.deps, d.length ≤ 9223372036854775807) :
    Calls Tryz.prog 25 #[.slice A l.length c, .func (.func 29) #[] #[.pointer (some ⟨g, 0, none⟩)]] w fun e w' => ∃ A3 c3, e = .returned (.slice A3 (l.filter fun x => (decide (x.name.data.toList ∈ ns) || x.deps.any fun n => decide (n ∈ ns))).length c3) ∧ patR.Own w' w.heap.size (.slice A3 (l.filter fun x => (decide (x.name.data.toList ∈ ns) || x.deps.any fun n => decide (n ∈ ns))).length c3) (l.filter fun x => (decide (x.name.data.toList ∈ ns) || x.deps.any fun n => decide (n ∈ ns))) ∧ Below w.heap.size w w' := by
  obtain ⟨q, hq⟩ : ∃ q : Ptm → Bool, (fun x : Ptm => (decide (x.name.data.toList ∈ ns) || x.deps.any fun n => decide (n ∈ ns))) = q := ⟨_, rfl⟩
  have HC := Lib.hid (fun (x : Ptm) (hx : x ∈ l) (W : World) (hW : Below w.heap.size w W) (ox : x.Ok W W.heap.size) (r : Bool) (hr : q x = r) => dusers1_any g ns x W (hV.on hW) ox (hz x hx) (hd x hx) (hdl x hx) r (by rw [← hr, ← hq]))
  rw [hq]
  have HS := Lib.hid hs
  have HNIL : Hid (patR.Own w w.heap.size (.slice none 0 0) (([] : List Ptm).filter q)) := Rk.Own.nil _ _
  clear hs hz hV hq hd hdl
  go_enter Tryz.func25, Tryz.ntmps25
  go_wp2_with fail
  go_loopw [5, 10] (fun v i wr => ∃ (k : Nat) (A3 : Option Addr) (n3 c3 : Nat), v = .slice A3 n3 c3 ∧ k ≤ l.length ∧ i = .int .i64 (k : Int) ∧ Hid (n3 = ((l.take k).filter q).length) ∧ Hid (patR.Own wr w.heap.size (.slice A3 n3 c3) ((l.take k).filter q)) ∧ Hid (Below w.heap.size w wr)) (fun _ i _ => l.length - (intOf i).toNat)
  case atStart => exact ⟨0, none, 0, 0, rfl, Nat.zero_le _, rfl, rfl, HNIL.out, Below.refl _ _⟩
  case round =>
    clear HNIL
    obtain ⟨k, A3, n3, c3, rfl, hk, rfl, HN3, HO, HG⟩ := hrel
    by_cases hlt : k < l.length
    · obtain ⟨b, off, rfl, hbB, hcx⟩ := (HS.out.on HG.out).1.get hlt
      have HST : Hid ((l.take (k + 1)).filter q = (l.take k).filter q ++ (if q l[k] then [l[k]] else [])) := by
        show _ = _
        rw [List.take_succ_eq_append_getElem hlt, List.filter_append]
        congr 1
        by_cases h : q l[k] = true
        · simp [h]
        · simp [h]
      have HLE : Hid (((l.take k).filter q).length ≤ k) := Nat.le_trans (List.length_filter_le _ _) (by rw [List.length_take]; omega)
      have IA := pat_indexAt (c := c) (A := some ⟨b, off, none⟩) rfl hlt
      have hok := (HS.out.on HG.out).ok hlt
      have HCX := Lib.hid (HC.out l[k] (List.getElem_mem hlt))
      have u0 : (0 : Int) ≤ (k : Int) := by omega
      have u1 : (k : Int) < (l.length : Int) := by omega
      generalize l[k] = x at *
      have RX := Lib.hid (pat_rng hcx)
      obtain ⟨hbx, hX⟩ := pat_box wr x
      have HX := Lib.hid hX
      have HG1 := Lib.hid (HG.out.trans (hbx.mono HG.out.size))
      have HO1 := Lib.hid (Rk.Own.kept HO.out hbx)
      obtain ⟨t, ht⟩ : ∃ t, q x = t := ⟨_, rfl⟩
      have C1 := Lib.hid (HCX.out _ HG1.out (hok.on hbx) t ht)
      rw [ht] at HST
      clear hcx hbB hbx hX HG HO ht hok HCX
      go_upto_region 5 with ((with_reducible refine wpList_load_patw (.tmp 12) b (off + k * 3) x RX.out ?_ ?_ ?_ ?_); rfl; rfl; rfl; simp only [Act.put, List.setIfInBounds_toArray, List.set_cons_zero, List.set_cons_succ])
      generalize (wr.alloc (.cells #[.string x.name, .slice x.a1 x.deps.length x.c1, .slice x.a2 x.ops.length x.c2] 35)) = wa at *
      generalize wr.heap.size = gx at *
      have RB := Lib.hid (pat_range HX.out)
      clear RX IA HX
      -- @P1
      go_wp2_with ((with_reducible refine wpList_load_patw (.tmp 7) gx 0 x RB.out ?_ ?_ ?_ ?_); rfl; rfl; rfl; simp only [Act.put, List.setIfInBounds_toArray, List.set_cons_zero, List.set_cons_succ])
      refine C1.out.mono ?_
      rintro e w4 ⟨rfl, hb4⟩
      have HG4 := Lib.hid (HG1.out.trans (hb4.mono HG1.out.size))
      have RB4 := Lib.hid (range_on RB.out hb4)
      have HO4 := Lib.hid (Rk.Own.kept HO1.out hb4)
      clear hb4 HG1 RB HO1 C1
      cases t
      · rw [if_neg Bool.false_ne_true, List.append_nil] at HST
        go_wp2
        go_roundw
        case rel => exact ⟨k + 1, A3, n3, c3, rfl, by omega, by go_num, by rw [HST.out]; exact HN3.out, by rw [HST.out]; exact HO4.out, HG4.out⟩
        case measure => simp [intOf]; omega
      · rw [if_pos rfl] at HST
        have HAL := Lib.hid (Rk.At.new_ (R := patR) w4 x)
        have hB1 : Below w4.heap.size w4 (w4.alloc (.cells (patR.enc x).toArray patR.ty)) := (Below.refl _ _).alloc (Nat.le_refl _) _
        have HO5 := Lib.hid (Rk.Own.kept HO4.out hB1)
        have HG5 := Lib.hid (HG4.out.trans (hB1.mono HG4.out.size))
        have hle : ((l.take k).filter q).length + [x].length ≤ 1000000 := by have := HLE.out; simp only [List.length_cons, List.length_nil]; omega
        have HM3 : Hid (n3 + 1 = ((l.take k).filter q).length + [x].length) := by have := HN3.out; show _ = _; simp only [List.length_cons, List.length_nil]; omega
        clear hB1 HO4
        generalize (l.take k).filter q = o at *
        -- @P2
        go_wp2_with (first | ((with_reducible refine wpList_load_patw (.tmp 7) gx 0 x RB4.out ?_ ?_ ?_ ?_); rfl; rfl; rfl; simp only [Act.put, List.setIfInBounds_toArray, List.set_cons_zero, List.set_cons_succ]) | (at_builtin; refine Rk.wpList_append patR rfl _ _ rfl w.heap.size _ o [x] rfl HO5.out (some ⟨w4.heap.size, 0, none⟩) 1 1 rfl rfl (fun e => by cases e) (HAL.out.row) HG5.out.size hle (n3 + 1) HM3.out ?_))
        intro A' c' w6 ho2 hg2
        have HB2 := Lib.hid (Rk.Own.app HG5.out HO5.out hg2 (Nat.le_refl _))
        have HO2 := Lib.hid ho2
        clear ho2 hg2 HO5 HAL HG5 RB4 HG4
        go_wp2
        go_roundw
        case rel => exact ⟨k + 1, A', _, c', rfl, by omega, by go_num, by rw [HST.out, List.length_append]; exact HM3.out, by rw [HST.out]; exact HO2.out, HB2.out⟩
        case measure => simp [intOf]; omega
    · have hke : l.take k = l := List.take_of_length_le (by omega)
      rw [hke] at HN3 HO
      have h3 := HN3.out
      subst h3
      go_wp2
      go_ret
      exact ⟨A3, c3, rfl, HO.out, HG.out⟩
end Go.Proofs.YtifkpelcdihdoaaGreatDoor
