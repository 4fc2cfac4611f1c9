/- Package clash: byPlaces, against, Ops. Package clash: Places. A whole patch read out of a variable. Package clash: pairs, and what it hands on. -/
import Derived.Lib.SlicesCompact
import Derived.Test.YtideldgblafhlaaDoorShelf
import Derived.BigQuiet
import Derived.Deep.QuietTactic
import Derived.Test.YtideldgblafhlaaDoorProg
import Derived.WalkKit
import Derived.WalkSpells
import Derived.Handy
import Derived.Lib.Hide
import Derived.Shelf.Strings.BuilderK
import Derived.Deep.RegionHeld3
import Derived.Deep.MidRow
import Derived.RangeFuncNested
import Derived.RangeFuncBox
import Derived.RangeFuncLeaves
import Derived.Shelf.Abstract
import Derived.Shelf.AbstractIn
import Derived.OwnWalkIn
import Derived.TacticsInMore
import Derived.LoopNIn
import Derived.LoopIn
import Derived.Maps.AppendAt
import Derived.Test.YtideldgblafhlaaDoorCk17
namespace Go.Proofs.YtideldgblafhlaaDoor
open Go.RowKit Go.Sort
set_option linter.unusedVariables false

def PlcLeft (n₀ b o : Nat) (x : Om) (w : World) (e : Ending) (w' : World) : Prop := ∃ caps, e = .returned (.func (.func 44) #[] caps) ∧ PlcS n₀ w' caps b o x ∧ Below w.heap.size w w'
set_option maxHeartbeats 4000000 in
set_option maxRecDepth 100000 in
theorem cplaces_any (n₀ b o : Nat) (x : Om) (w : World) (hx : OpPl w n₀ b o x) (hn : n₀ ≤ w.heap.size) :
    Calls Tryd.prog 33 #[.pointer (some ⟨b, o, none⟩)] w (PlcLeft n₀ b o x w) := by
  have hal : Below w.heap.size w (w.alloc (.cells #[.pointer (some ⟨b, o, none⟩)] 54)) := (Below.refl _ _).alloc (Nat.le_refl _) _
  have HA := Lib.hid (Boxed.new w 54 (.pointer (some ⟨b, o, none⟩)))
  have HX := Lib.hid (hx.kp (KpT.of hal hn))
  have HB := Lib.hid hal
  have HN : Hid (n₀ ≤ (w.alloc (.cells #[.pointer (some ⟨b, o, none⟩)] 54)).heap.size) := Nat.le_trans hn hal.size
  have HSZ : Hid (w.heap.size ≤ (w.alloc (.cells #[.pointer (some ⟨b, o, none⟩)] 54)).heap.size) := hal.size
  clear hx hn hal
  go_enter Tryd.func33, Tryd.ntmps33
  go_upto_region 1 with (fail)
  generalize (w.alloc (.cells #[.pointer (some ⟨b, o, none⟩)] 54)) = wa at *
  generalize hga : w.heap.size = ga at *
  have a0 := HA.out.cell
  have C := Lib.hid (ctouched_any n₀ b o x wa HX.out HN.out)
  go_wp2_with fail
  refine C.out.mono ?_
  rintro e w1 ⟨rfl, hb1⟩
  obtain ⟨hal, har⟩ := arr_box w1 x
  have hb2 := hb1.trans (hal.mono hb1.size)
  have k2 := KpT.of hb2 HN.out
  replace HA := Lib.hid (k2.box HA.out)
  replace HX := Lib.hid (HX.out.kp k2)
  replace HB := Lib.hid (HB.out.trans (hb2.mono HSZ.out))
  replace HN := Lib.hid (Nat.le_trans HN.out hb2.size)
  replace HSZ := Lib.hid (Nat.le_trans HSZ.out hb2.size)
  have HT := Lib.hid har
  clear hb1 hal har hb2 k2 C a0
  go_upto_region 2 with (fail)
  generalize (w1.alloc (.cells #[.string x.parent.p, .int .i64 x.parent.n, .string x.name, .string x.dst.p, .int .i64 x.dst.n, .string x.dname] 51)) = w2 at *
  generalize w1.heap.size = gt at *
  have sl := arr_slice gt (plO x).length (plO_two x)
  have bh := Boxed.new w2 55 (.slice (some ⟨gt, 0, none⟩) (plO x).length 2)
  have hal3 : Below w2.heap.size w2 (w2.alloc (.cells #[.slice (some ⟨gt, 0, none⟩) (plO x).length 2] 55)) := (Below.refl _ _).alloc (Nat.le_refl _) _
  have k3 := KpT.of hal3 HN.out
  have HV : Hid (PlcLeft n₀ b o x w (.returned (.func (.func 44) #[] #[.pointer (some ⟨ga, 0, none⟩), .pointer (some ⟨w2.heap.size, 0, none⟩)])) (w2.alloc (.cells #[.slice (some ⟨gt, 0, none⟩) (plO x).length 2] 55))) := by
    refine ⟨_, rfl, ⟨_, _, gt, rfl, k3.box HA.out, HX.out.kp k3, bh, HT.out.kp k3⟩, ?_⟩
    rw [hga]
    exact HB.out.trans (hal3.mono HSZ.out)
  clear bh hal3 k3 HA HX HN HSZ HB HT
  go_wp2
  go_ret
  exact HV.out
/-- A function that tells why another operation clashes with x. -/
def AgS (n₀ : Nat) (W : World) (f : Nat) (caps : Array Value) (b o : Nat) (x : Om) : Prop :=
  (f = 42 ∧ x.kind = 5 ∧ LinS n₀ W caps b o x) ∨ (f = 44 ∧ ¬ x.kind = 5 ∧ PlcS n₀ W caps b o x)
theorem AgS.kp {n₀ : Nat} {W W' : World} {f : Nat} {caps : Array Value} {b o : Nat} {x : Om} (h : AgS n₀ W f caps b o x) (hk : KpT n₀ W W') : AgS n₀ W' f caps b o x := by
  rcases h with ⟨e, k, h⟩ | ⟨e, k, h⟩
  · exact .inl ⟨e, k, h.kp hk⟩
  · exact .inr ⟨e, k, h.kp hk⟩
theorem AgS.enters {n₀ : Nat} {W : World} {f : Nat} {caps : Array Value} {b o : Nat} {x : Om} (h : AgS n₀ W f caps b o x) : ∀ args w, (callFunc f args).run Tryd.prog w = .ok (.enter f args) w := by
  rcases h with ⟨rfl, _⟩ | ⟨rfl, _⟩
  · exact enters_of Tryd.func42 (by kernel_rfl) rfl
  · exact enters_of Tryd.func44 (by kernel_rfl) rfl
theorem ag_call {n₀ : Nat} {W : World} {f : Nat} {caps : Array Value} {b o : Nat} {x : Om} (h : AgS n₀ W f caps b o x) (hn : n₀ ≤ W.heap.size) (gx : x.Rg) (c p : Nat) (y : Om) (hy : OpPl W n₀ c p y) (gy : y.Rg) (r : Int) (hr : clashO x.key y.key = r) :
    Calls Tryd.prog f (#[.pointer (some ⟨c, p, none⟩)] ++ caps) W fun e w' => e = .returned (.int .i64 r) ∧ Below W.heap.size W w' := by
  rcases h with ⟨rfl, k, h⟩ | ⟨rfl, k, h⟩
  · exact clines1_any n₀ b o c p caps x y W h hy hn (Nat.le_trans gx.few (by decide)) gy k r hr
  · exact cplaces1_any n₀ b o c p caps x y W h hy hn k r hr
def AgLeft (n₀ b o : Nat) (x : Om) (w : World) (e : Ending) (w' : World) : Prop := ∃ f caps, e = .returned (.func (.func f) #[] caps) ∧ AgS n₀ w' f caps b o x ∧ Below w.heap.size w w'
set_option maxHeartbeats 4000000 in
set_option maxRecDepth 100000 in
theorem cagainst_any (n₀ b o : Nat) (x : Om) (w : World) (hx : OpPl w n₀ b o x) (hn : n₀ ≤ w.heap.size) (gx : x.Rg) :
    Calls Tryd.prog 21 #[.pointer (some ⟨b, o, none⟩)] w (AgLeft n₀ b o x w) := by
  have x0 := hx.c.kind
  by_cases h5 : x.kind = 5
  · have q5 : (x.kind == 5) = true := by simpa using h5
    have C := Lib.hid (clines_any n₀ b o x w hx hn gx)
    have H5 := Lib.hid h5
    clear hx hn h5
    go_enter Tryd.func21, Tryd.ntmps21
    go_wp2_with fail
    refine C.out.mono ?_
    rintro e w1 ⟨caps, rfl, hs, hb⟩
    have HV : Hid (AgLeft n₀ b o x w (.returned (.func (.func 42) #[] caps)) w1) := ⟨_, _, rfl, .inl ⟨rfl, H5.out, hs⟩, hb⟩
    clear hs hb C
    go_wp2
    go_ret
    exact HV.out
  · have q5 : (x.kind == 5) = false := by simpa using h5
    have C := Lib.hid (cplaces_any n₀ b o x w hx hn)
    have H5 := Lib.hid h5
    clear hx hn h5
    go_enter Tryd.func21, Tryd.ntmps21
    go_wp2_with fail
    refine C.out.mono ?_
    rintro e w1 ⟨caps, rfl, hs, hb⟩
    have HV : Hid (AgLeft n₀ b o x w (.returned (.func (.func 44) #[] caps)) w1) := ⟨_, _, rfl, .inr ⟨rfl, H5.out, hs⟩, hb⟩
    clear hs hb C
    go_wp2
    go_ret
    exact HV.out
theorem op_pl {w : World} {g n₀ : Nat} {x : Om} (h : OpAt w g x) (hg : g < n₀) (hn : n₀ ≤ w.heap.size) (ok : x.Ok w n₀) : OpPl w n₀ g 0 x := ⟨fun j v hv => by rw [Nat.zero_add]; exact h.cell hv, hg, ok⟩
set_option maxHeartbeats 4000000 in
set_option maxRecDepth 100000 in
theorem cops_any (x y : Om) (w : World) (ox : x.Ok w w.heap.size) (oy : y.Ok w w.heap.size) (gx : x.Rg) (gy : y.Rg) (r : Int) (hr : clashO x.key y.key = r) :
    Calls Tryd.prog 10 #[.agg #[.int .i64 x.kind, .string x.self.p, .int .i64 x.self.n, .string x.parent.p, .int .i64 x.parent.n, .string x.dst.p, .int .i64 x.dst.n, .string x.name, .string x.dname, .string x.left.p, .int .i64 x.left.n, .string x.right.p, .int .i64 x.right.n, .slice x.a1 x.dels.length x.c1, .int .i64 x.first, .slice x.a2 x.lines.length x.c2], .agg #[.int .i64 y.kind, .string y.self.p, .int .i64 y.self.n, .string y.parent.p, .int .i64 y.parent.n, .string y.dst.p, .int .i64 y.dst.n, .string y.name, .string y.dname, .string y.left.p, .int .i64 y.left.n, .string y.right.p, .int .i64 y.right.n, .slice y.a1 y.dels.length y.c1, .int .i64 y.first, .slice y.a2 y.lines.length y.c2]] w fun e w' => e = .returned (.int .i64 r) ∧ Below w.heap.size w w' := by
  obtain ⟨hb, hx, hy⟩ := op_box2 w x y
  have HF := Lib.hid hb
  have HX := Lib.hid (op_pl hx hx.lt (Nat.le_refl _) (ox.on hb))
  have HY := Lib.hid (op_pl hy hy.lt (Nat.le_refl _) (oy.on hb))
  clear hb hx hy ox oy
  go_enter Tryd.func10, Tryd.ntmps10
  go_upto_region 1 with (fail)
  generalize ((w.alloc (.cells #[.int .i64 x.kind, .string x.self.p, .int .i64 x.self.n, .string x.parent.p, .int .i64 x.parent.n, .string x.dst.p, .int .i64 x.dst.n, .string x.name, .string x.dname, .string x.left.p, .int .i64 x.left.n, .string x.right.p, .int .i64 x.right.n, .slice x.a1 x.dels.length x.c1, .int .i64 x.first, .slice x.a2 x.lines.length x.c2] 27)).alloc (.cells #[.int .i64 y.kind, .string y.self.p, .int .i64 y.self.n, .string y.parent.p, .int .i64 y.parent.n, .string y.dst.p, .int .i64 y.dst.n, .string y.name, .string y.dname, .string y.left.p, .int .i64 y.left.n, .string y.right.p, .int .i64 y.right.n, .slice y.a1 y.dels.length y.c1, .int .i64 y.first, .slice y.a2 y.lines.length y.c2] 27)) = wb at *
  generalize w.heap.size + 1 = gy2 at *
  have HSZ : Hid (w.heap.size ≤ wb.heap.size) := HF.out.size
  generalize hgx : w.heap.size = gx2 at *
  have C := Lib.hid (cagainst_any wb.heap.size gx2 0 x wb HX.out (Nat.le_refl _) gx)
  go_wp2_with fail
  refine C.out.mono ?_
  rintro e w1 ⟨f, caps, rfl, hs, hb⟩
  have eg := hs.enters
  have k1 := KpT.of hb (Nat.le_refl _)
  have C2 := Lib.hid (ag_call hs hb.size gx gy2 0 y (HY.out.kp k1) gy r hr)
  have HF1 := Lib.hid (HF.out.trans (hb.mono HSZ.out))
  have HSZ1 := Lib.hid (Nat.le_trans HSZ.out hb.size)
  clear hs hb k1 C
  go_wp2_with fail
  refine C2.out.mono ?_
  rintro e w2 ⟨rfl, hb⟩
  have HV : Hid (Below gx2 w w2) := HF1.out.trans (hb.mono HSZ1.out)
  clear hb C2
  go_wp2
  go_ret
  rw [hgx]
  exact ⟨rfl, HV.out⟩
end Go.Proofs.YtideldgblafhlaaDoor
namespace Go.Proofs.YtideldgblafhlaaDoor
open Go.RowKit
set_option linter.unusedVariables false

/-- Places, as they lie, told as texts. -/
def plT (p : Plm) : ByteArray × ByteArray := (toB (textK p.dir.key), p.name)
theorem placesT_is (x : Om) : placesT x = (plO x).map plT := by
  unfold placesT
  rw [← plO_keys]
  unfold pls
  rw [List.map_map]
  refine List.map_congr_left fun p _ => ?_
  show (toB (textK p.dir.key), toB p.name.data.toList) = _
  rw [toB_of]
  rfl
set_option maxHeartbeats 8000000 in
set_option maxRecDepth 100000 in
theorem cplacesT_any (x : Om) (w : World) (ox : x.Ok w w.heap.size) (hp : x.parent.p.size ≤ 1000000) (hd : x.dst.p.size ≤ 1000000) (hT : Nums w) :
    Calls Tryd.prog 7 #[.agg #[.int .i64 x.kind, .string x.self.p, .int .i64 x.self.n, .string x.parent.p, .int .i64 x.parent.n, .string x.dst.p, .int .i64 x.dst.n, .string x.name, .string x.dname, .string x.left.p, .int .i64 x.left.n, .string x.right.p, .int .i64 x.right.n, .slice x.a1 x.dels.length x.c1, .int .i64 x.first, .slice x.a2 x.lines.length x.c2]] w (S2Left w (placesT x)) := by
  obtain ⟨hb, hx⟩ := op_box w x
  have HF := Lib.hid hb
  have HX := Lib.hid (op_pl hx hx.lt (Nat.le_refl _) (ox.on hb))
  have HNT := Lib.hid (Nums.on hT hb)
  have HPD : Hid (∀ p ∈ plO x, p.dir.p.size ≤ 1000000) := fun p hp2 => by
    rw [plO_take] at hp2
    have h := List.mem_of_mem_take hp2
    simp only [twoP, List.mem_cons, List.not_mem_nil, or_false] at h
    rcases h with rfl | rfl
    · exact hp
    · exact hd
  clear hb hx ox hT hp hd
  go_enter Tryd.func7, Tryd.ntmps7
  go_upto_region 1 with (fail)
  generalize (w.alloc (.cells #[.int .i64 x.kind, .string x.self.p, .int .i64 x.self.n, .string x.parent.p, .int .i64 x.parent.n, .string x.dst.p, .int .i64 x.dst.n, .string x.name, .string x.dname, .string x.left.p, .int .i64 x.left.n, .string x.right.p, .int .i64 x.right.n, .slice x.a1 x.dels.length x.c1, .int .i64 x.first, .slice x.a2 x.lines.length x.c2] 27)) = wb at *
  have HSZ : Hid (w.heap.size ≤ wb.heap.size) := HF.out.size
  generalize hgx : w.heap.size = gx at *
  have C := Lib.hid (ctouched_any wb.heap.size gx 0 x wb HX.out (Nat.le_refl _))
  go_wp2_with fail
  refine C.out.mono ?_
  rintro e w1 ⟨rfl, hb1⟩
  obtain ⟨hal, har⟩ := arr_box w1 x
  have hb2 := hb1.trans (hal.mono hb1.size)
  replace HF := Lib.hid (HF.out.trans (hb2.mono HSZ.out))
  replace HSZ := Lib.hid (Nat.le_trans HSZ.out hb2.size)
  replace HNT := Lib.hid (Nums.on HNT.out hb2)
  have HT := Lib.hid har
  clear hb1 hal har hb2 C HX
  go_upto_region 3 with (fail)
  generalize (w1.alloc (.cells #[.string x.parent.p, .int .i64 x.parent.n, .string x.name, .string x.dst.p, .int .i64 x.dst.n, .string x.dname] 51)) = w2 at *
  generalize w1.heap.size = gt at *
  have sl := arr_slice gt (plO x).length (plO_two x)
  have HGT : Hid (gt < w2.heap.size) := HT.out.lt
  have HR := Lib.hid (HT.out.pls HT.out.lt)
  have HTW := plO_two x
  have HP := Lib.hid (placesT_is x)
  clear HT
  generalize plO x = l at *
  -- @P1
  go_wp2_with fail
  clear sl
  go_loopw [3, 15] (fun lv iv wr => ∃ (k : Nat) (A : Option Addr) (c : Nat), lv = .slice A k c ∧ iv = .int .i64 (k : Int) ∧ k ≤ l.length ∧ Hid (s2R.Own wr w2.heap.size (.slice A k c) ((l.take k).map plT)) ∧ Hid (Below w2.heap.size w2 wr)) (fun lv iv _ => l.length - (intOf iv).toNat)
  case atStart => exact ⟨0, none, 0, rfl, rfl, Nat.zero_le _, Rk.Own.nil _ _, Below.refl _ _⟩
  case round =>
    obtain ⟨k, A, c, rfl, rfl, hk, HO, HB⟩ := hrel
    by_cases hlt : k < l.length
    · obtain ⟨b, off, e, bl1, d0, d1, d2⟩ := cl_get (HR.out.below HB.out) hlt
      cases e
      simp only [Nat.zero_add] at d0 d1 d2
      have HPS : Hid (l[k].dir.p.size ≤ 1000000) := HPD.out _ (List.getElem_mem hlt)
      have HSN : Hid ((l.take (k + 1)).map plT = (l.take k).map plT ++ [plT l[k]]) := by
        show _ = _
        rw [List.take_succ_eq_append_getElem hlt, List.map_append]
        rfl
      have HLN : Hid (((l.take k).map plT).length = k) := by show _ = _; rw [List.length_map, List.length_take]; omega
      generalize l[k] = p at *
      obtain ⟨hal, hy⟩ := cl_box wr p
      have HY := Lib.hid hy
      have HO1 := Lib.hid (HO.out.kept hal)
      have HB1 := Lib.hid (HB.out.trans (hal.mono HB.out.size))
      have u0 : (0 : Int) ≤ (k : Int) := by omega
      have u1 : (k : Int) < (l.length : Int) := by omega
      have HSZ1 := Lib.hid (Nat.le_trans HB.out.size hal.size)
      clear hal hy HO HB
      go_upto_region 6 with (fail)
      generalize (wr.alloc (.cells #[.string p.dir.p, .int .i64 p.dir.n, .string p.name] 50)) = wa at *
      generalize wr.heap.size = gp at *
      clear d0 d1 d2
      have y0 := cl_c0 HY.out
      have y1 := cl_c1 HY.out
      have y2 := cl_c2 HY.out
      have HDR : Hid (Below wa.heap.size wa wa.drew) := (Below.refl _ _).drew
      refine wp_region_noPanic ?_
      refine wp_region_held_drew (S := fun W => ClAt W gp p) (by kernel_rfl) (HY.out.on HDR.out) (fun hHeld => ?_)
      refine wpAnyH_take (i := 0) (oi := { dst := some 19, op := _, type := _, pos := _, after := _, guard := _ }) (v := .slice A k c) rfl (by kernel_rfl) (by kernel_rfl) (by kernel_rfl) (fun _ _ _ h => h) (Or.inl ⟨by rfl, fun w' hSw => ?_⟩) (by assumption) ?_
      · (try dsimp only at hSw)
        go_simp
      try simp only [Act.put, List.setIfInBounds_toArray, List.set_cons_zero, List.set_cons_succ]
      refine wpAnyH_take (i := 1) (oi := { dst := some 20, op := _, type := _, pos := _, after := _, guard := _ }) (v := .pointer (some ⟨gp, 0, none⟩)) rfl (by kernel_rfl) (by kernel_rfl) (by kernel_rfl) (fun _ _ _ h => h) (Or.inl ⟨by rfl, fun w' hSw => ?_⟩) (by assumption) ?_
      · (try dsimp only at hSw)
        go_simp
      try simp only [Act.put, List.setIfInBounds_toArray, List.set_cons_zero, List.set_cons_succ]
      refine wpAnyH_take (i := 2) (oi := { dst := some 21, op := _, type := _, pos := _, after := _, guard := _ }) (v := .agg #[.string p.dir.p, .int .i64 p.dir.n]) rfl (by kernel_rfl) (by kernel_rfl) (by kernel_rfl) (fun _ _ _ h => h) (Or.inl ⟨by rfl, fun w' hSw => ?_⟩) (by assumption) ?_
      · (try dsimp only at hSw)
        have qy0 := cl_c0 hSw
        have qy1 := cl_c1 hSw
        go_simp
      try simp only [Act.put, List.setIfInBounds_toArray, List.set_cons_zero, List.set_cons_succ]
      refine wpAnyH_take (i := 4) (oi := { dst := some 23, op := _, type := _, pos := _, after := _, guard := _ }) (v := .pointer (some ⟨gp, 2, none⟩)) rfl (by kernel_rfl) (by kernel_rfl) (by kernel_rfl) (fun _ _ _ h => h) (Or.inl ⟨by rfl, fun w' hSw => ?_⟩) (by assumption) ?_
      · (try dsimp only at hSw)
        go_simp
      try simp only [Act.put, List.setIfInBounds_toArray, List.set_cons_zero, List.set_cons_succ]
      refine wpAnyH_take (i := 5) (oi := { dst := some 24, op := _, type := _, pos := _, after := _, guard := _ }) (v := .string p.name) rfl (by kernel_rfl) (by kernel_rfl) (by kernel_rfl) (fun _ _ _ h => h) (Or.inl ⟨by rfl, fun w' hSw => ?_⟩) (by assumption) ?_
      · (try dsimp only at hSw)
        have qy2 := cl_c2 hSw
        go_simp
      try simp only [Act.put, List.setIfInBounds_toArray, List.set_cons_zero, List.set_cons_succ]
      have XD := Lib.hid HDR.out
      generalize hwD : wa.drew = wD at *
      clear hwD HDR
      refine wpAnyH_ready (rs := [3]) (by kernel_rfl) (by simp) ?_
      refine AllReadyH.cons rfl (fun K hK => ?_) AllReadyH.nil
      go_simp
      go_at_call 18
      refine (idtext_any p.dir wD (Nums.on HNT.out (HB1.out.trans (XD.out.mono HSZ1.out))) HPS.out).mono ?_
      rintro e w5 ⟨rfl, hb⟩
      have X5 := Lib.hid (XD.out.trans (hb.mono XD.out.size))
      clear hb
      refine hK.out _ _ (HY.out.on X5.out) (fun hHeld3 => ?_)
      clear hK K hHeld
      try simp only [Act.put, List.setIfInBounds_toArray, List.set_cons_zero, List.set_cons_succ]
      refine wpAnyH_take (i := 6) (oi := { dst := some 25, op := _, type := _, pos := _, after := _, guard := _ }) (v := .agg #[.string (toB (textK p.dir.key)), .string p.name]) rfl (by kernel_rfl) (by kernel_rfl) (by kernel_rfl) (fun _ _ _ h => h) (Or.inl ⟨by rfl, fun w' hSw => ?_⟩) (by assumption) ?_
      · (try dsimp only at hSw)
        go_simp
      try simp only [Act.put, List.setIfInBounds_toArray, List.set_cons_zero, List.set_cons_succ]
      have hal5 : Below w5.heap.size w5 (w5.alloc (.cells #[.string (toB (textK p.dir.key)), .string p.name] 35)) := (Below.refl _ _).alloc (Nat.le_refl _) _
      have X6 := Lib.hid (X5.out.trans (hal5.mono X5.out.size))
      have HO6 := Lib.hid (HO1.out.kept X6.out)
      have HR6 : Hid (s2R.Row (w5.alloc (.cells #[.string (toB (textK p.dir.key)), .string p.name] 35)) (w5.alloc (.cells #[.string (toB (textK p.dir.key)), .string p.name] 35)).heap.size (some ⟨w5.heap.size, 0, none⟩) [plT p]) := (Rk.At.new_ (R := s2R) w5 (plT p)).row
      refine wpAnyH_ready (rs := [7]) (by kernel_rfl) (by simp) ?_
      refine AllReadyH.cons rfl (fun K hK => ?_) AllReadyH.nil
      go_simp
      refine hK.out _ _ (HY.out.on X6.out) (fun hHeld7 => ?_)
      clear hK K hal5
      try simp only [Act.put, List.setIfInBounds_toArray, List.set_cons_zero, List.set_cons_succ]
      refine wpAnyH_ready (rs := [8]) (by kernel_rfl) (by simp) ?_
      refine AllReadyH.cons rfl (fun K hK => ?_) AllReadyH.nil
      refine s2R.step_append rfl _ _ rfl w2.heap.size (.slice A k c) ((l.take k).map plT) [plT p] rfl HO6.out (some ⟨w5.heap.size, 0, none⟩) 1 1 rfl rfl (fun e => by cases e) HR6.out (Nat.le_trans HSZ1.out X6.out.size) (by rw [HLN.out]; simp; omega) (k + 1) (by rw [HLN.out]; rfl) ?_
      rintro A' c' w7 ho hg
      rw [← HSN.out] at ho
      have HO7 := Lib.hid ho
      have HB7 : Hid (Below w2.heap.size w2 w7) := (HB1.out.trans (X6.out.mono HSZ1.out)).grown hg (Nat.le_trans HSZ1.out X6.out.size) (fun q hq => HO6.out.block q hq)
      have hne : (Value.slice A k c).ownBlock ≠ some gp := fun e => by
        have hY6 := HY.out.on X6.out
        rcases Rk.own_cases HO6.out with ⟨e1, _⟩ | ⟨g, cap, e1, _, hbk⟩
        · rw [e1] at e; cases e
        · rw [e1] at e
          obtain rfl : g = gp := by simpa [Value.ownBlock] using e
          obtain ⟨cur, h1, _⟩ := hbk.h
          rw [show (w5.alloc (.cells #[.string (toB (textK p.dir.key)), .string p.name] 35)).heap[g]? = _ from hY6] at h1
          exact absurd h1 (by simp [clR, s2R])
      refine hK.out _ _ ((HY.out.on X6.out).grown hg hne) (fun hHeld8 => ?_)
      clear hK K hHeld3 hHeld7 ho hg hne HO6 HR6 X5 X6 HO1 HB1 HY XD
      try simp only [Act.put, List.setIfInBounds_toArray]
      refine wpAnyH_take (i := 9) (oi := { dst := some 3, op := _, type := _, pos := _, after := _, guard := _ }) (v := (.slice A' (k + 1) c')) rfl (by kernel_rfl) (by kernel_rfl) (by kernel_rfl) (fun _ _ _ h => h) (Or.inl ⟨by rfl, fun w' hSw => ?_⟩) (by assumption) ?_
      · (try dsimp only at hSw)
        go_simp
      try simp only [Act.put]
      refine wpAnyH_done (by kernel_rfl) ?_ _
      refine NoPanic.normal ?_
      go_wp2
      go_roundw
      case rel => exact ⟨k + 1, A', c', rfl, by go_num, by omega, HO7.out, HB7.out⟩
      case measure => simp [intOf]; omega
    · obtain rfl : k = l.length := by omega
      have hrow := HO.out.parts.2.1
      rw [List.take_length, ← HP.out] at hrow
      have hlen : (placesT x).length = l.length := by rw [HP.out, List.length_map]
      have HV : Hid (S2Left w (placesT x) (.returned (.slice A l.length c)) wr) := by
        refine ⟨A, c, by rw [hlen], hrow, ?_⟩
        rw [hgx]
        exact HF.out.trans (HB.out.mono HSZ.out)
      clear hrow hlen HO HB
      go_wp2
      go_ret
      exact HV.out
end Go.Proofs.YtideldgblafhlaaDoor
namespace Go.Proofs.YtideldgblafhlaaDoor
open Go.RowKit
set_option linter.unusedVariables false

theorem PatB.rng {w : World} {g : Nat} {u0 u1 u2 : Value} (h : PatB w g u0 u1 u2) : w.rangeAt g 0 [u0, u1, u2] := fun j v hv => by
  match j, hv with
  | 0, hv => cases hv; exact h.c0
  | 1, hv => cases hv; exact h.c1
  | 2, hv => cases hv; exact h.c2
end Go.Proofs.YtideldgblafhlaaDoor
namespace Go.Proofs.YtideldgblafhlaaDoor
open Go.RowKit Go.Shelf
set_option linter.unusedVariables false

attribute [local go_sem] Oper.semAt_some

theorem PatB.kp {n₀ : Nat} {W W' : World} {g : Nat} {u0 u1 u2 : Value} (h : PatB W g u0 u1 u2) (hk : KpT n₀ W W') : PatB W' g u0 u1 u2 := ⟨hk.k g _ h.blk (by simp [mayKeep])⟩
/-- What comes to a round: places, and why. -/
abbrev CameP := (Nat × Nat) × Int
def cameP (z : CameP) : Array Value := #[.agg #[.int .i64 (z.1.1 : Int), .int .i64 (z.1.2 : Int)], .int .i64 z.2]
/-- Operations in a row, below n₀, each of which is right. -/
structure OpsR (W : World) (n₀ : Nat) (A : Option Addr) (l : List Om) : Prop where
  ops : Ops W n₀ A l
  rg : ∀ x ∈ l, x.Rg
  few : l.length ≤ 100000
theorem OpsR.kp {W W' : World} {n₀ : Nat} {A : Option Addr} {l : List Om} (h : OpsR W n₀ A l) (hk : KpT n₀ W W') : OpsR W' n₀ A l := ⟨⟨h.ops.1.below hk.b, fun x hx => (h.ops.2 x hx).below hk.b⟩, h.rg, h.few⟩
theorem OpsR.pl {W : World} {n₀ : Nat} {A : Option Addr} {l : List Om} (h : OpsR W n₀ A l) {k : Nat} (hk : k < l.length) : ∃ b off, A = some ⟨b, off, none⟩ ∧ OpPl W n₀ b (off + k * 16) l[k] := by
  obtain ⟨b, off, e, hlt, hc⟩ := h.ops.1.get hk
  exact ⟨b, off, e, op_rngm hc, hlt, h.ops.2 _ (List.getElem_mem hk)⟩
theorem abides_on {β : Type} {B : Nat} {J : β → World → Prop} (h : AbidesFrom B J) {s : β} {W W' : World} (hs : J s W) (hb : Below W.heap.size W W') : J s W' :=
  h s W W' none hs ⟨hb.os, hb.tape, hb.output, hb.size, fun i hi _ => hb.block i hi⟩ (by simp)
theorem soFar_lt {p q : List OpK} {i k : Nat} (hi : i < p.length) (hk : k < q.length) (h : ¬ clashO p[i] q[k] = 0) : (soFar p q i k).length < (whysG q 0 p).length := by
  obtain ⟨r, e⟩ := soFar_pre p q i (k + 1) hi hk
  rw [soFar_step p q i k hi hk, if_neg h] at e
  rw [e]
  simp only [List.length_append, List.length_cons, List.length_nil]
  omega
set_option maxRecDepth 100000 in
set_option maxHeartbeats 8000000 in
theorem cpairs1_in (n : Nat) (hn : 1 ≤ n) (l n₀ g1 g2 : Nat) (p q : Ptm) (J Jx : List CameP → World → Prop) (W : World) (hJa : AbidesFrom W.heap.size J)
    (hY : ∀ pre x W, J pre W → pre.length < (whysG (okeys q.ops) 0 (okeys p.ops)).length → YieldAt Fence.wide (n - 1) Tryd.prog l (cameP x) W fun e W' =>
      (e = .returned (.bool true) ∧ J (pre ++ [x]) W' ∧ KpT n₀ W W') ∨ (e = .returned (.bool false) ∧ Jx (pre ++ [x]) W'))
    (hp : PatAt W g1 p) (hq : PatAt W g2 q) (op : OpsR W n₀ p.a2 p.ops) (oq : OpsR W n₀ q.a2 q.ops) (hn0 : n₀ ≤ W.heap.size) (h0 : J [] W) :
    CallsIn Fence.wide n Tryd.prog 36 #[.func (.yield l) #[] #[], .pointer (some ⟨g1, 0, none⟩), .pointer (some ⟨g2, 0, none⟩)] W fun e W' => (∃ v, e = .returned v) ∧
      ((∃ ys, ys = whysG (okeys q.ops) 0 (okeys p.ops) ∧ J ys W') ∨ (∃ pre, (∃ r, whysG (okeys q.ops) 0 (okeys p.ops) = pre ++ r) ∧ Jx pre W')) := by
  have HP := Lib.hid hp
  have HQ := Lib.hid hq
  have OP := Lib.hid op
  have OQ := Lib.hid oq
  have HN := Lib.hid hn0
  have HY := Lib.hid hY
  have HJA := Lib.hid hJa
  have lp := okeys_len p.ops
  have lq := okeys_len q.ops
  have HLP : Hid ((okeys p.ops).length = p.ops.length) := lp
  have HLQ : Hid ((okeys q.ops).length = q.ops.length) := lq
  have c1 := hp.c2
  have lf := op.few
  have lg := oq.few
  clear hp hq op oq hn0 hY hJa lp lq
  refine callsIn_of_wp Tryd.func36 rfl trivial ?_ rfl
  simp only [Tryd.ntmps36, List.size_toArray, List.length_cons, List.length_nil, Nat.reduceAdd, Nat.reduceSub, Array.replicate_succ, Array.replicate_zero, List.push_toArray, List.append_toArray, List.nil_append, List.cons_append]
  -- @P1
  gi_wp2
  clear c1
  gi_loopw [11] (fun i wr => ∃ (k : Nat) (pre : List CameP), i = .int .i64 (k : Int) ∧ k ≤ p.ops.length ∧ Hid (pre = soFar (okeys p.ops) (okeys q.ops) k 0) ∧ J pre wr ∧ Hid (KpT n₀ W wr))
    (fun i _ => p.ops.length - (intOf i).toNat)
  case atStart => exact ⟨0, [], rfl, Nat.zero_le _, (soFar_zero _ _).symm, h0, KpT.refl _ _⟩
  case round =>
    obtain ⟨k, pre, rfl, hk, hpre, hJ, hkp⟩ := hrel
    by_cases hlt : k < p.ops.length
    · have hPk := HP.out.kp hkp.out
      have c1 := hPk.c2
      have c2 := (HQ.out.kp hkp.out).c2
      obtain ⟨b, off, eA, hpl⟩ := (OP.out.kp hkp.out).pl hlt
      have IA := op_indexAt (c := p.c2) eA hlt
      have gx := Lib.hid (OP.out.rg _ (List.getElem_mem hlt))
      have hkey : ∀ (h : k < (okeys p.ops).length), (okeys p.ops)[k] = p.ops[k].key := fun h => by simp [okeys]
      have HK := Lib.hid hkey
      have hsz : n₀ ≤ wr.heap.size := Nat.le_trans HN.out hkp.out.s
      have C := Lib.hid (cagainst_any n₀ b (off + k * 16) p.ops[k] wr hpl hsz gx.out)
      have HPL := Lib.hid hpl
      have HSZ := Lib.hid hsz
      have u0 : (0 : Int) ≤ (k : Int) := by omega
      have u1 : (k : Int) < (p.ops.length : Int) := by omega
      clear hPk eA hpl hkey hsz
      -- @P2
      gi_wp2_with fail
      refine ⟨trivial, ?_⟩
      refine (callsIn_wide.2 C.out).mono ?_
      rintro e w1 ⟨f, caps, rfl, hs, hb⟩
      have hk1 := hkp.out.trans (KpT.of hb HSZ.out)
      have hJ1 : J pre w1 := abides_on HJA.out hJ hb
      have eg := hs.enters
      have HS := Lib.hid hs
      have HK1 := Lib.hid hk1
      have d2 := (HQ.out.kp hk1).c2
      have hpre0 : Hid (pre = soFar (okeys p.ops) (okeys q.ops) k 0) := hpre
      clear hs hb hk1 hJ hkp hpre c1 c2 C HPL HSZ
      -- @P3
      gi_wp2_with fail
      clear IA d2
      gi_loopw [22] (fun j wx => ∃ (m : Nat) (pre : List CameP), j = .int .i64 (m : Int) ∧ m ≤ q.ops.length ∧ Hid (pre = soFar (okeys p.ops) (okeys q.ops) k m) ∧ J pre wx ∧ Hid (KpT n₀ w1 wx))
        (fun j _ => q.ops.length - (intOf j).toNat)
      case atStart => exact ⟨0, pre, rfl, Nat.zero_le _, hpre0.out, hJ1, KpT.refl _ _⟩
      case round =>
        clear hJ1 hpre0
        obtain ⟨m, pre2, rfl, hm, hpre2, hJ2, hkp2⟩ := hrel
        by_cases hlt2 : m < q.ops.length
        · have c2 := (HQ.out.kp (HK1.out.trans hkp2.out)).c2
          obtain ⟨b2, off2, eB, hpl⟩ := (OQ.out.kp (HK1.out.trans hkp2.out)).pl hlt2
          have IB := op_indexAt (c := q.c2) eB hlt2
          have gy := OQ.out.rg _ (List.getElem_mem hlt2)
          have hsz : n₀ ≤ wr.heap.size := Nat.le_trans HN.out (HK1.out.trans hkp2.out).s
          obtain ⟨r, hr⟩ : ∃ r, clashO p.ops[k].key q.ops[m].key = r := ⟨_, rfl⟩
          have C := Lib.hid (ag_call (HS.out.kp hkp2.out) hsz gx.out b2 (off2 + m * 16) q.ops[m] hpl gy r hr)
          have v0 : (0 : Int) ≤ (m : Int) := by omega
          have v1 : (m : Int) < (q.ops.length : Int) := by omega
          have hi : k < (okeys p.ops).length := by rw [HLP.out]; exact hlt
          have hj : m < (okeys q.ops).length := by rw [HLQ.out]; exact hlt2
          have hcl : clashO (okeys p.ops)[k] (okeys q.ops)[m] = r := by rw [← hr]; simp [okeys]
          have hstep := soFar_step (okeys p.ops) (okeys q.ops) k m hi hj
          have hlen := soFar_lt (p := okeys p.ops) (q := okeys q.ops) hi hj
          have hprefix := soFar_pre (okeys p.ops) (okeys q.ops) k (m + 1) hi hj
          rw [hcl] at hstep hlen
          rw [← hpre2.out] at hstep hlen
          have HST := Lib.hid hstep
          have HLN := Lib.hid hlen
          have HPF := Lib.hid hprefix
          have HSZ2 := Lib.hid hsz
          clear hi hj hcl hstep hlen hprefix gy hpl eB hsz hr
          -- @P4
          gi_wp2_with fail
          refine ⟨trivial, (callsIn_wide.2 C.out).mono ?_⟩
          rintro e w2 ⟨rfl, hb⟩
          have HKK : Hid (KpT n₀ w1 w2) := hkp2.out.trans (KpT.of hb HSZ2.out)
          have hJ3 : J pre2 w2 := abides_on HJA.out hJ2 hb
          clear hb hJ2 hkp2 C c2 IB hpre2
          by_cases hr0 : r = 0
          · have hnext : Hid (pre2 = soFar (okeys p.ops) (okeys q.ops) k (m + 1)) := by
              show _ = _
              rw [HST.out, if_pos hr0, List.append_nil]
            have q0 : (r != 0) = false := by simpa using hr0
            clear HST HLN HPF
            gi_wp2
            refine ⟨fun _ h => (by cases h), ?_⟩
            gi_wp2
            go_roundw
            case rel => exact ⟨m + 1, pre2, by go_num, by omega, hnext, hJ3, HKK⟩
            case measure => simp [intOf]; omega
          · have hnext : Hid (pre2 ++ [((k, m), r)] = soFar (okeys p.ops) (okeys q.ops) k (m + 1)) := by
              show _ = _
              rw [HST.out, if_neg hr0]
            have q0 : (r != 0) = true := by simpa using hr0
            obtain ⟨fn, tmps, assign, body, hy, hR⟩ := HY.out pre2 ((k, m), r) w2 hJ3 (HLN.out hr0)
            have HRR := Lib.hid hR
            clear HST HLN hR hJ3 hr0
            unfold cameP at hy
            dsimp only at hy
            -- @P5
            gi_wp2
            refine HRR.out.mono ?_
            rintro e W3 (⟨rfl, hJ4, hk4⟩ | ⟨rfl, hJx4⟩)
            · have HK4 := Lib.hid (HKK.out.trans hk4)
              clear hk4 HRR hy HKK
              gi_wp2
              go_roundw
              case rel => exact ⟨m + 1, _, by go_num, by omega, hnext, hJ4, HK4⟩
              case measure => simp [intOf]; omega
            · have hfin : ∃ r', whysG (okeys q.ops) 0 (okeys p.ops) = (pre2 ++ [((k, m), r)]) ++ r' := by
                rw [hnext.out]
                exact HPF.out
              clear HRR hy HKK
              gi_wp2
              refine bodyPost_ret (results_none rfl _ _ _) rfl ?_
              exact ⟨⟨_, rfl⟩, .inr ⟨_, hfin, hJx4⟩⟩
        · obtain rfl : m = q.ops.length := by omega
          have hnext : Hid (pre2 = soFar (okeys p.ops) (okeys q.ops) (k + 1) 0) := by
            show _ = _
            rw [hpre2.out, ← HLQ.out, soFar_row _ _ _ (by rw [HLP.out]; exact hlt)]
          have hkf := Lib.hid (HK1.out.trans hkp2.out)
          clear hpre2 hkp2
          gi_wp2
          go_roundw
          case rel => exact ⟨k + 1, pre2, by go_num, by omega, hnext, hJ2, hkf⟩
          case measure => simp [intOf]; omega
    · obtain rfl : k = p.ops.length := by omega
      have hfin : pre = whysG (okeys q.ops) 0 (okeys p.ops) := by rw [hpre.out, ← HLP.out, soFar_end]
      gi_wp2
      go_end0
      exact ⟨⟨_, rfl⟩, .inl ⟨pre, hfin, hJ⟩⟩
end Go.Proofs.YtideldgblafhlaaDoor
