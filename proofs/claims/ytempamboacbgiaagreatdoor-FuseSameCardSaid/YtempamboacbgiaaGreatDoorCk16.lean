/- The reference's Hunks of layer 9. -/
import Derived.Test.YtempamboacbgiaaGreatDoorCk13
import Derived.Test.YtempamboacbgiaaGreatDoorCk15
import Derived.Deep.Cut
import Derived.Deep.CutRange
import Derived.Deep.RegionLaw
import Derived.Deep.AppendLies
namespace Go.Proofs.YtempamboacbgiaaGreatDoor
open Go.RowKit
set_option linter.unusedVariables false

theorem goA_len (a n b : Nat) (po Q : List (List UInt8)) (i : Nat) : (goA a n b po Q i).length ≤ po.length + 2 * Q.length := by
  unfold goA
  simp only [List.length_append, List.length_take, List.length_drop]
  split
  · omega
  · simp only [List.length_nil]
    omega
/-- The hunk that is made, at each place: its lines so far. -/
structure HunkJ (w5 w : World) (G : Nat) (p : ByteArray) (mn : Int) (OLD NEW : List (List UInt8)) (z : Pm) : Prop where
  fz : Fz w G z
  kind : z.kind = 6
  p : z.p = p
  dst : z.dst = ⟨#[]⟩
  at_ : z.at_ = mn
  old : z.old = OLD
  new : z.new = NEW
  below : Below G w5 w
theorem HunkJ.on {w5 w w' : World} {G : Nat} {p : ByteArray} {mn : Int} {OLD NEW : List (List UInt8)} {z : Pm} (h : HunkJ w5 w G p mn OLD NEW z) (hb : Below w.heap.size w w') : HunkJ w5 w' G p mn OLD NEW z :=
  ⟨h.fz.on hb, h.kind, h.p, h.dst, h.at_, h.old, h.new, h.below.trans (hb.mono (Nat.le_of_lt h.fz.at_.lt))⟩
theorem HunkJ.goes {w5 w w' : World} {G : Nat} {p : ByteArray} {mn : Int} {OLD NEW : List (List UInt8)} {z : Pm} (h : HunkJ w5 w G p mn OLD NEW z) {tt : List (List UInt8)} {A' : Option Addr} {c' m : Nat} (hm : m = z.old.length + tt.length) (ho : OwnS w' (G + 1) (.slice A' m c') (z.old ++ tt)) (hg : w.grownBy w' z.v1.ownBlock) (hat : (Value.slice A' m c').ownBlock = z.v1.ownBlock ∨ (Value.slice A' m c').ownBlock = some w.heap.size) :
    HunkJ w5 (w'.setCell ⟨G, 4, none⟩ (.slice A' m c')) G p mn (OLD ++ tt) NEW { z with a1 := A', c1 := c', old := z.old ++ tt } := by
  obtain ⟨f, hb⟩ := h.fz.goes hm ho hg hat
  exact ⟨f, h.kind, h.p, h.dst, h.at_, by show z.old ++ tt = _; rw [h.old], h.new, h.below.trans hb⟩
theorem HunkJ.comes {w5 w w' : World} {G : Nat} {p : ByteArray} {mn : Int} {OLD NEW : List (List UInt8)} {z : Pm} (h : HunkJ w5 w G p mn OLD NEW z) {tt : List (List UInt8)} {A' : Option Addr} {c' m : Nat} (hm : m = z.new.length + tt.length) (ho : OwnS w' (G + 1) (.slice A' m c') (z.new ++ tt)) (hg : w.grownBy w' z.v2.ownBlock) (hat : (Value.slice A' m c').ownBlock = z.v2.ownBlock ∨ (Value.slice A' m c').ownBlock = some w.heap.size) :
    HunkJ w5 (w'.setCell ⟨G, 5, none⟩ (.slice A' m c')) G p mn OLD (NEW ++ tt) { z with a2 := A', c2 := c', new := z.new ++ tt } := by
  obtain ⟨f, hb⟩ := h.fz.comes hm ho hg hat
  exact ⟨f, h.kind, h.p, h.dst, h.at_, h.old, by show z.new ++ tt = _; rw [h.new], h.below.trans hb⟩
theorem HunkJ.sep {w5 w : World} {G : Nat} {p : ByteArray} {mn : Int} {OLD NEW : List (List UInt8)} {z : Pm} (h : HunkJ w5 w G p mn OLD NEW z) (hp : p.size ≤ 9223372036854775807) (h1 : -9223372036854775808 ≤ mn) (h2 : mn ≤ 9223372036854775807) (m1 : z.old.length ≤ 9223372036854775807) (m2 : z.new.length ≤ 9223372036854775807) : z.Sep w := by
  obtain ⟨s1, r1, _⟩ := h.fz.o1.at_
  obtain ⟨s2, r2, _⟩ := h.fz.o2.at_
  exact ⟨⟨⟨s1, s2, r1, r2, by show _ ≤ z.at_; rw [h.at_]; exact h1, by show z.at_ ≤ _; rw [h.at_]; exact h2, m1, m2⟩, by rw [h.p]; exact hp, by rw [h.dst]; decide, by rw [h.kind]; decide, by rw [h.kind]; decide⟩, h.fz.o1.blk, h.fz.o2.blk⟩
theorem HunkJ.grown1 {w5 w w' : World} {G : Nat} {p : ByteArray} {mn : Int} {OLD NEW : List (List UInt8)} {z : Pm} (h : HunkJ w5 w G p mn OLD NEW z) (hg : w.grownBy w' z.v1.ownBlock) : PrimAt w' G z := h.fz.at_.grown hg fun e => by have := ownBlock_ge h.fz.o1 G e; omega
theorem HunkJ.grown2 {w5 w w' : World} {G : Nat} {p : ByteArray} {mn : Int} {OLD NEW : List (List UInt8)} {z : Pm} (h : HunkJ w5 w G p mn OLD NEW z) (hg : w.grownBy w' z.v2.ownBlock) : PrimAt w' G z := h.fz.at_.grown hg fun e => by have := ownBlock_ge h.fz.o2 G e; omega

/-- Both steps' lines, behind what is written from block G on. -/
theorem x_kept {w w5 W : World} {G : Nat} {x y : Pm} (ox : x.Ok w w.heap.size) (oy : y.Ok w w.heap.size) (h : Below w.heap.size w w5) (hb : Below G w5 W) (hG : w.heap.size ≤ G) : x.Ok W W.heap.size ∧ y.Ok W W.heap.size := by
  have hb2 : Below w.heap.size w W := h.trans (hb.mono hG)
  exact ⟨ox.on hb2, oy.on hb2⟩

set_option maxHeartbeats 40000000 in
set_option maxRecDepth 100000 in
theorem refhunks9_any (x y : Pm) (w : World) (ox : x.Ok w w.heap.size) (oy : y.Ok w w.heap.size) (wx : AtK x.key) (wy : AtK y.key) (hT : Tabs w) :
    Calls Tryz.prog 27 #[x.val, y.val] w (HunkLeft w (hunksP x.key y.key)) := by
  obtain ⟨tr, htr⟩ : ∃ r, touchP x.key y.key = r := ⟨_, rfl⟩
  have CT := Lib.hid (fun W (hb : Below w.heap.size w W) => reftouch_any x y W (ox.on hb) (oy.on hb) wx wy (Tabs.on hT hb) tr htr)
  cases tr
  · rw [hunks_no htr]
    clear ox oy wx wy hT htr
    unfold Pm.val at CT ⊢
    obtain ⟨hal, hx, hy, hg⟩ := box3 w x y
    have e0 : (((w.alloc (.cells x.cells.toArray 38)).alloc (.cells y.cells.toArray 38)).alloc (.cells (Pm.cells ⟨0, ⟨#[]⟩, ⟨#[]⟩, 0, none, 0, [], none, 0, []⟩).toArray 38)) = (((w.alloc (.cells #[.int .i64 x.kind, .string x.p, .string x.dst, .int .i64 x.at_, .slice x.a1 x.old.length x.c1, .slice x.a2 x.new.length x.c2] 38)).alloc (.cells #[.int .i64 y.kind, .string y.p, .string y.dst, .int .i64 y.at_, .slice y.a1 y.old.length y.c1, .slice y.a2 y.new.length y.c2] 38)).alloc (.cells #[.int .i64 0, .string ⟨#[]⟩, .string ⟨#[]⟩, .int .i64 0, .slice none 0 0, .slice none 0 0] 38)) := rfl
    rw [e0] at hal hx hy hg
    have HX := Lib.hid hx
    have HY := Lib.hid hy
    have HG := Lib.hid hg
    have HA := Lib.hid hal
    clear hal hx hy hg e0
    go_enter Tryz.func27, Tryz.ntmps27
    go_wp2_with fail
    generalize hwa : (((w.alloc (.cells #[.int .i64 x.kind, .string x.p, .string x.dst, .int .i64 x.at_, .slice x.a1 x.old.length x.c1, .slice x.a2 x.new.length x.c2] 38)).alloc (.cells #[.int .i64 y.kind, .string y.p, .string y.dst, .int .i64 y.at_, .slice y.a1 y.old.length y.c1, .slice y.a2 y.new.length y.c2] 38)).alloc (.cells #[.int .i64 0, .string ⟨#[]⟩, .string ⟨#[]⟩, .int .i64 0, .slice none 0 0, .slice none 0 0] 38)) = wa at *
    clear hwa
    refine (CT.out wa HA.out).mono ?_
    rintro e w1 ⟨rfl, hb⟩
    replace HX := Lib.hid (HX.out.on hb)
    replace HY := Lib.hid (HY.out.on hb)
    replace HG := Lib.hid (HG.out.on hb)
    replace HA := Lib.hid (HA.out.trans (hb.mono HA.out.size))
    clear hb
    have g0 := HG.out.c0
    have gf0 := HG.out.fz 0
    have g1 := HG.out.c1
    have gf1 := HG.out.fz 1
    have g2 := HG.out.c2
    have gf2 := HG.out.fz 2
    have g3 := HG.out.c3
    have gf3 := HG.out.fz 3
    have g4 := HG.out.c4
    have gf4 := HG.out.fz 4
    have g5 := HG.out.c5
    have gf5 := HG.out.fz 5
    have HT := Lib.hid (hunk_set (w := w) (o := none) HA.out (show w.heap.size ≤ w.heap.size + 1 + 1 by omega) HG.out (sep_zero _) (rfl : _ = zeroP) false rfl)
    have HT1 := Lib.hid HT.out.1
    have HT2 := Lib.hid HT.out.2
    clear HT
    go_wp2
    (try simp only [Exit.inBlock, Exit.then])
    refine bodyPost_ret (ret_prim2 rfl _ _ _ ⟨0, ⟨#[]⟩, ⟨#[]⟩, 0, none, 0, [], none, 0, []⟩ _ rfl rfl HT2.out) rfl ?_
    exact HT1.out
  · have htd := htr
    unfold touchP at htd
    rw [decide_eq_true_eq] at htd
    obtain ⟨cx, cy, kx, ky, kp, t1, t2⟩ := htd
    obtain ⟨h1, m0, m1⟩ : 0 ≤ x.at_ ∧ x.old.length ≤ 2000 ∧ x.new.length ≤ 2000 := ck_nums cx kx
    obtain ⟨h2, m2, m3⟩ : 0 ≤ y.at_ ∧ y.old.length ≤ 2000 ∧ y.new.length ≤ 2000 := ck_nums cy ky
    have g1 := wx.hi
    have g2 := wy.hi
    simp only [Pm.key] at g1 g2 t1 t2
    obtain ⟨a, ha⟩ : ∃ a : Nat, x.at_ = (a : Int) := ⟨x.at_.toNat, by omega⟩
    obtain ⟨b, hb0⟩ : ∃ b : Nat, y.at_ = (b : Int) := ⟨y.at_.toNat, by omega⟩
    obtain ⟨mn, hmn⟩ : ∃ m, min x.at_ y.at_ = m := ⟨_, rfl⟩
    have OX := Lib.hid ox
    have OY := Lib.hid oy
    have HTR := Lib.hid htr
    have hak : a ≤ 1099511627776 := by omega
    have hbk : b ≤ 1099511627776 := by omega
    have HMN : Hid (mn = ((min a b : Nat) : Int)) := by show _ = _; omega
    have HAB : Hid (x.at_ = (a : Int) ∧ y.at_ = (b : Int)) := ⟨ha, hb0⟩
    clear ox oy wx wy hT htr cx cy kx ky kp t1 t2 h1 h2 g1 g2 ha hb0
    unfold Pm.val at CT ⊢
    obtain ⟨hal, hx, hy, hg⟩ := box3 w x y
    have e0 : (((w.alloc (.cells x.cells.toArray 38)).alloc (.cells y.cells.toArray 38)).alloc (.cells (Pm.cells ⟨0, ⟨#[]⟩, ⟨#[]⟩, 0, none, 0, [], none, 0, []⟩).toArray 38)) = (((w.alloc (.cells #[.int .i64 x.kind, .string x.p, .string x.dst, .int .i64 x.at_, .slice x.a1 x.old.length x.c1, .slice x.a2 x.new.length x.c2] 38)).alloc (.cells #[.int .i64 y.kind, .string y.p, .string y.dst, .int .i64 y.at_, .slice y.a1 y.old.length y.c1, .slice y.a2 y.new.length y.c2] 38)).alloc (.cells #[.int .i64 0, .string ⟨#[]⟩, .string ⟨#[]⟩, .int .i64 0, .slice none 0 0, .slice none 0 0] 38)) := rfl
    rw [e0] at hal hx hy hg
    have HX := Lib.hid hx
    have HY := Lib.hid hy
    have HG := Lib.hid hg
    have HA := Lib.hid hal
    clear hal hx hy hg e0
    go_enter Tryz.func27, Tryz.ntmps27
    go_wp2_with fail
    generalize hwa : (((w.alloc (.cells #[.int .i64 x.kind, .string x.p, .string x.dst, .int .i64 x.at_, .slice x.a1 x.old.length x.c1, .slice x.a2 x.new.length x.c2] 38)).alloc (.cells #[.int .i64 y.kind, .string y.p, .string y.dst, .int .i64 y.at_, .slice y.a1 y.old.length y.c1, .slice y.a2 y.new.length y.c2] 38)).alloc (.cells #[.int .i64 0, .string ⟨#[]⟩, .string ⟨#[]⟩, .int .i64 0, .slice none 0 0, .slice none 0 0] 38)) = wa at *
    clear hwa
    refine (CT.out wa HA.out).mono ?_
    rintro e w1 ⟨rfl, hb⟩
    replace HX := Lib.hid (HX.out.on hb)
    replace HY := Lib.hid (HY.out.on hb)
    replace HG := Lib.hid (HG.out.on hb)
    replace HA := Lib.hid (HA.out.trans (hb.mono HA.out.size))
    clear hb CT
    have HDR : Hid (Below w1.heap.size w1 w1.drew) := (Below.refl _ _).drew
    have K3 := Lib.hid (fun W (hb : Below w1.heap.size w1 W) => (⟨(HX.out.on hb).c1, (HX.out.on hb).c3, (HY.out.on hb).c3⟩ : W.cell? ⟨w.heap.size, 1, none⟩ = some (.string x.p) ∧ W.cell? ⟨w.heap.size, 3, none⟩ = some (.int .i64 x.at_) ∧ W.cell? ⟨w.heap.size + 1, 3, none⟩ = some (.int .i64 y.at_)))
    go_wp2_with fail
    go_cut [6] from 18 (fun s6 wx => s6 = .pointer (some ⟨w1.heap.size, 0, none⟩) ∧ wx = (w1.alloc (.cells #[.int .i64 6, .string x.p, .string ⟨#[]⟩, .int .i64 mn, .slice none 0 0, .slice none 0 0] 38)).drew)
    case first =>
      refine wp_region_noPanic ?_
      refine wp_region_held_drew (S := (fun w' => w'.cell? ⟨w.heap.size, 1, none⟩ = some (.string x.p) ∧ w'.cell? ⟨w.heap.size, 3, none⟩ = some (.int .i64 x.at_) ∧ w'.cell? ⟨w.heap.size + 1, 3, none⟩ = some (.int .i64 y.at_))) (by kernel_rfl) (K3.out _ HDR.out) (fun hHeld => ?_)
      refine wpAnyH_take (i := 0) (oi := { dst := some 18, op := _, type := _, pos := _, after := _, guard := _ }) (v := .pointer (some ⟨w.heap.size, 1, none⟩)) rfl (by kernel_rfl) (by kernel_rfl) (by kernel_rfl) (fun _ _ _ h => h) (Or.inl ⟨by rfl, fun w' hSw => ?_⟩) (by assumption) ?_
      · ((try dsimp only at hSw); go_simp)
      try simp only [Act.put, List.setIfInBounds_toArray, List.set_cons_zero, List.set_cons_succ]
      refine wpAnyH_take (i := 1) (oi := { dst := some 19, op := _, type := _, pos := _, after := _, guard := _ }) (v := .string x.p) rfl (by kernel_rfl) (by kernel_rfl) (by kernel_rfl) (fun _ _ _ h => h) (Or.inl ⟨by rfl, fun w' hSw => ?_⟩) (by assumption) ?_
      · ((try dsimp only at hSw); go_simp)
      try simp only [Act.put, List.setIfInBounds_toArray, List.set_cons_zero, List.set_cons_succ]
      refine wpAnyH_take (i := 2) (oi := { dst := some 20, op := _, type := _, pos := _, after := _, guard := _ }) (v := .pointer (some ⟨w.heap.size, 3, none⟩)) rfl (by kernel_rfl) (by kernel_rfl) (by kernel_rfl) (fun _ _ _ h => h) (Or.inl ⟨by rfl, fun w' hSw => ?_⟩) (by assumption) ?_
      · ((try dsimp only at hSw); go_simp)
      try simp only [Act.put, List.setIfInBounds_toArray, List.set_cons_zero, List.set_cons_succ]
      refine wpAnyH_take (i := 3) (oi := { dst := some 21, op := _, type := _, pos := _, after := _, guard := _ }) (v := .int .i64 x.at_) rfl (by kernel_rfl) (by kernel_rfl) (by kernel_rfl) (fun _ _ _ h => h) (Or.inl ⟨by rfl, fun w' hSw => ?_⟩) (by assumption) ?_
      · ((try dsimp only at hSw); go_simp)
      try simp only [Act.put, List.setIfInBounds_toArray, List.set_cons_zero, List.set_cons_succ]
      refine wpAnyH_take (i := 4) (oi := { dst := some 22, op := _, type := _, pos := _, after := _, guard := _ }) (v := .pointer (some ⟨w.heap.size + 1, 3, none⟩)) rfl (by kernel_rfl) (by kernel_rfl) (by kernel_rfl) (fun _ _ _ h => h) (Or.inl ⟨by rfl, fun w' hSw => ?_⟩) (by assumption) ?_
      · ((try dsimp only at hSw); go_simp)
      try simp only [Act.put, List.setIfInBounds_toArray, List.set_cons_zero, List.set_cons_succ]
      refine wpAnyH_take (i := 5) (oi := { dst := some 23, op := _, type := _, pos := _, after := _, guard := _ }) (v := .int .i64 y.at_) rfl (by kernel_rfl) (by kernel_rfl) (by kernel_rfl) (fun _ _ _ h => h) (Or.inl ⟨by rfl, fun w' hSw => ?_⟩) (by assumption) ?_
      · ((try dsimp only at hSw); go_simp)
      try simp only [Act.put, List.setIfInBounds_toArray, List.set_cons_zero, List.set_cons_succ]
      refine wpAnyH_ready (rs := [6, 8]) (by kernel_rfl) (by simp) ?_
      refine AllReadyH.cons rfl (fun K hK => ?_) (AllReadyH.cons rfl (fun K hK => ?_) AllReadyH.nil)
      · go_simp
        go_at_call 52
        refine (reflow_any _ _ _).mono ?_
        rintro e wl ⟨rfl, rfl⟩
        rw [hmn]
        refine hK.out _ _ (K3.out _ HDR.out) (fun hHeld6 => ?_)
        clear hK K hHeld
        try simp only [Act.put, List.setIfInBounds_toArray, List.set_cons_zero, List.set_cons_succ]
        refine wpAnyH_take (i := 7) (oi := { dst := some 25, op := _, type := _, pos := _, after := _, guard := _ }) (v := .agg #[.int .i64 6, .string x.p, .string ⟨#[]⟩, .int .i64 mn, .slice none 0 0, .slice none 0 0]) rfl (by kernel_rfl) (by kernel_rfl) (by kernel_rfl) (fun _ _ _ h => h) (Or.inl ⟨by rfl, fun w' hSw => ?_⟩) (by assumption) ?_
        · ((try dsimp only at hSw); go_simp)
        try simp only [Act.put, List.setIfInBounds_toArray, List.set_cons_zero, List.set_cons_succ]
        refine wpAnyH_ready (rs := [8]) (by kernel_rfl) (by simp) ?_
        refine AllReadyH.cons rfl (fun K hK => ?_) AllReadyH.nil
        go_simp
        refine hK.out _ _ ((K3.out _ ((Below.refl _ _).alloc (Nat.le_refl _) _).drew)) (fun hHeld8 => ?_)
        clear hK K hHeld6
        try simp only [Act.put, List.setIfInBounds_toArray, List.set_cons_zero, List.set_cons_succ]
        refine wpAnyH_ready (rs := [9]) (by kernel_rfl) (by simp) ?_
        refine AllReadyH.cons rfl (fun K hK => ?_) AllReadyH.nil
        go_simp
        refine hK.out _ _ ((K3.out _ ((Below.refl _ _).alloc (Nat.le_refl _) _).drew)) (fun hHeld9 => ?_)
        clear hK K hHeld8
        try simp only [Act.put, List.setIfInBounds_toArray, List.set_cons_zero, List.set_cons_succ]
        refine wpAnyH_done (by kernel_rfl) ?_ _
        refine NoPanic.normal ?_
        go_wp2_with fail
        go_meet
        case rel => exact ⟨rfl, rfl⟩
      · go_simp
        refine hK.out _ _ ((K3.out _ ((Below.refl _ _).alloc (Nat.le_refl _) _).drew)) (fun hHeld8 => ?_)
        clear hK K hHeld
        try simp only [Act.put, List.setIfInBounds_toArray, List.set_cons_zero, List.set_cons_succ]
        refine wpAnyH_ready (rs := [6]) (by kernel_rfl) (by simp) ?_
        refine AllReadyH.cons rfl (fun K hK => ?_) AllReadyH.nil
        go_simp
        go_at_call 52
        refine (reflow_any _ _ _).mono ?_
        rintro e wl ⟨rfl, rfl⟩
        rw [hmn]
        refine hK.out _ _ ((K3.out _ ((Below.refl _ _).alloc (Nat.le_refl _) _).drew)) (fun hHeld6 => ?_)
        clear hK K hHeld8
        try simp only [Act.put, List.setIfInBounds_toArray, List.set_cons_zero, List.set_cons_succ]
        refine wpAnyH_take (i := 7) (oi := { dst := some 25, op := _, type := _, pos := _, after := _, guard := _ }) (v := .agg #[.int .i64 6, .string x.p, .string ⟨#[]⟩, .int .i64 mn, .slice none 0 0, .slice none 0 0]) rfl (by kernel_rfl) (by kernel_rfl) (by kernel_rfl) (fun _ _ _ h => h) (Or.inl ⟨by rfl, fun w' hSw => ?_⟩) (by assumption) ?_
        · ((try dsimp only at hSw); go_simp)
        try simp only [Act.put, List.setIfInBounds_toArray, List.set_cons_zero, List.set_cons_succ]
        refine wpAnyH_ready (rs := [9]) (by kernel_rfl) (by simp) ?_
        refine AllReadyH.cons rfl (fun K hK => ?_) AllReadyH.nil
        go_simp
        refine hK.out _ _ ((K3.out _ ((Below.refl _ _).alloc (Nat.le_refl _) _).drew)) (fun hHeld9 => ?_)
        clear hK K hHeld6
        try simp only [Act.put, List.setIfInBounds_toArray, List.set_cons_zero, List.set_cons_succ]
        refine wpAnyH_done (by kernel_rfl) ?_ _
        refine NoPanic.normal ?_
        go_wp2_with fail
        go_meet
        case rel => exact ⟨rfl, rfl⟩
    case rest =>
      obtain ⟨rfl, rfl⟩ := hcut
      have hal : Below w1.heap.size w1 (w1.alloc (.cells #[.int .i64 6, .string x.p, .string ⟨#[]⟩, .int .i64 mn, .slice none 0 0, .slice none 0 0] 38)).drew := ((Below.refl w1.heap.size w1).alloc (Nat.le_refl _) _).drew
      have HC0 : Hid (HunkJ (w1.alloc (.cells #[.int .i64 6, .string x.p, .string ⟨#[]⟩, .int .i64 mn, .slice none 0 0, .slice none 0 0] 38)).drew (w1.alloc (.cells #[.int .i64 6, .string x.p, .string ⟨#[]⟩, .int .i64 mn, .slice none 0 0, .slice none 0 0] 38)).drew w1.heap.size x.p mn [] [] ⟨6, x.p, ⟨#[]⟩, mn, none, 0, [], none, 0, []⟩) := ⟨⟨PrimAt.new_ w1 ⟨6, x.p, ⟨#[]⟩, mn, none, 0, [], none, 0, []⟩, OwnS.nil _ _, OwnS.nil _ _, fun k h => by simp [Pm.v1, Value.ownBlock] at h⟩, rfl, rfl, rfl, rfl, rfl, rfl, Below.refl _ _⟩
      have hlt := HG.out.lt
      replace HX := Lib.hid (HX.out.on hal)
      replace HY := Lib.hid (HY.out.on hal)
      replace HG := Lib.hid (HG.out.on hal)
      replace HA := Lib.hid (HA.out.trans (hal.mono HA.out.size))
      have hgs : w1.heap.size < (w1.alloc (.cells #[.int .i64 6, .string x.p, .string ⟨#[]⟩, .int .i64 mn, .slice none 0 0, .slice none 0 0] 38)).drew.heap.size := by show w1.heap.size < (w1.alloc _).heap.size; rw [World.size_alloc]; omega
      clear hmn K3 HDR hal
      generalize hw5 : (w1.alloc (.cells #[.int .i64 6, .string x.p, .string ⟨#[]⟩, .int .i64 mn, .slice none 0 0, .slice none 0 0] 38)).drew = w5 at *
      clear hw5
      generalize hG : w1.heap.size = G at *
      clear hG
      have HC := Lib.hid (fun W (hW : Below G w5 W) => (⟨by have := (HX.out.under hW (by omega)).c3; rwa [HAB.out.1] at this, (HX.out.under hW (by omega)).c4, (HX.out.under hW (by omega)).c5, by have := (HY.out.under hW (by omega)).c3; rwa [HAB.out.2] at this, (HY.out.under hW (by omega)).c4, (HY.out.under hW (by omega)).c5⟩ :
        W.cell? ⟨w.heap.size, 3, none⟩ = some (.int .i64 (a : Int)) ∧ W.cell? ⟨w.heap.size, 4, none⟩ = some (.slice x.a1 x.old.length x.c1) ∧ W.cell? ⟨w.heap.size, 5, none⟩ = some (.slice x.a2 x.new.length x.c2) ∧ W.cell? ⟨w.heap.size + 1, 3, none⟩ = some (.int .i64 (b : Int)) ∧ W.cell? ⟨w.heap.size + 1, 4, none⟩ = some (.slice y.a1 y.old.length y.c1) ∧ W.cell? ⟨w.heap.size + 1, 5, none⟩ = some (.slice y.a2 y.new.length y.c2)))
      obtain ⟨L, hL⟩ : ∃ L : Nat, max ((a : Int) + (x.new.length : Int)) ((b : Int) + (y.old.length : Int)) = (L : Int) := ⟨max (a + x.new.length) (b + y.old.length), by omega⟩
      have HL : Hid (L = max (a + x.new.length) (b + y.old.length)) := by show _ = _; omega
      have hLk : L ≤ 2199023255552 := by omega
      obtain ⟨x3, x4, x5, y3, y4, y5⟩ := HC.out w5 (Below.refl _ _)
      have z3 : w5.cell? ⟨G, 3, none⟩ = some (.int .i64 ((min a b : Nat) : Int)) := by have := HC0.out.fz.at_.c3; rw [← HMN.out]; exact this
      obtain ⟨m0', hm0⟩ : ∃ m : Nat, min a b = m := ⟨_, rfl⟩
      have HM0 := Lib.hid hm0
      rw [hm0] at z3
      have HO5 := Lib.hid (fun W (hW : Below G w5 W) => x_kept OX.out OY.out HA.out hW (by omega))
      clear hm0
      go_wp2_with fail
      refine (refhigh_any _ _ _).mono ?_
      rintro e wl ⟨rfl, rfl⟩
      rw [hL]
      clear hL
      go_wp2_with fail
      go_loopw [7, 8, 10] (fun pv cv iv wr => ∃ (i : Nat) (z : Pm), pv = .bool (decide (a < i)) ∧ cv = .bool (decide (b < i)) ∧ iv = .int .i64 (i : Int) ∧ m0' ≤ i ∧ i ≤ L + 1 ∧ Hid (HunkJ wl wr G x.p mn (goA a x.new.length b x.old y.old i) (goA b y.old.length a y.new x.new i) z) ∧ Hid (∀ j k (hj : j < x.new.length) (hk : k < y.old.length), a + j = b + k → a + j < i → x.new[j] = y.old[k])) (fun _ _ iv _ => L + 1 - (intOf iv).toNat)
      case atStart =>
        have h0 := HM0.out
        have h1 := HL.out
        refine ⟨m0', ⟨6, x.p, ⟨#[]⟩, mn, none, 0, [], none, 0, []⟩, by rw [decide_eq_false (by omega)], by rw [decide_eq_false (by omega)], rfl, Nat.le_refl _, by omega, ?_, fun j k _ _ h1 h2 => by omega⟩
        rw [← h0, goA_start, Nat.min_comm, goA_start]
        exact HC0.out
      case round =>
        obtain ⟨i, z, rfl, rfl, rfl, hi0, hi1, HJ, HAG⟩ := hrel
        clear x3 x4 x5 y3 y4 y5 z3 HC0
        obtain ⟨x3, x4, x5, y3, y4, y5⟩ := HC.out wr HJ.out.below
        have ik : i ≤ 2199023255553 := by omega
        by_cases hiL : i ≤ L
        · have hiL2 : (i : Int) ≤ (L : Int) := by omega
          go_upto_region 10 with (fail)
          go_cut [53] from 41 to 161 (fun t wx => ∃ tb : Bool, t = .bool tb ∧ Hid (tb = decide (i = a)) ∧ wx = wr)
          case first =>
            by_cases hi : i = a
            · have e1 : ((i : Int) == (a : Int)) = true := by rw [beq_iff_eq]; omega
              have e2 : decide (a < i) = false := by rw [decide_eq_false_iff_not]; omega
              have e3 := Lib.hid hi
              clear hi
              go_wp2_with fail
              go_meet
              case rel => exact ⟨true, rfl, (decide_eq_true e3.out).symm, rfl⟩
            · have e1 : ((i : Int) == (a : Int)) = false := by rw [beq_eq_false_iff_ne]; omega
              have e3 := Lib.hid hi
              clear hi
              go_wp2_with fail
              go_meet
              case rel => exact ⟨false, rfl, (decide_eq_false e3.out).symm, rfl⟩
          case rest =>
            obtain ⟨tb, rfl, HTB, hwc⟩ := hcut
            replace hwc := hwc.symm
            subst hwc
            go_upto_if 53 with (fail)
            go_cut [7] from 41 to 161 (fun pv wx => ∃ z', pv = .bool (decide (a < i + 1)) ∧ Hid (HunkJ wl wx G x.p mn ((goA a x.new.length b x.old y.old i) ++ (if i = a then x.old else [])) (goA b y.old.length a y.new x.new i) z'))
            case first =>
              cases tb
              rotate_left
              · have hi : i = a := of_decide_eq_true HTB.out.symm
                have HIF : Hid ((if i = a then x.old else []) = x.old) := if_pos hi
                have HD : Hid (decide (a < i + 1) = true) := decide_eq_true (by omega)
                clear hi HTB
                have gc := HJ.out.fz.at_.c4
                have HW := Lib.hid HJ.out.fz.o1
                have OXY := HO5.out wr HJ.out.below
                have hsr := Lib.hid OXY.1.h.old
                have hrr := Lib.hid OXY.1.h.r1
                have hlen : z.old.length + x.old.length ≤ 1000000 := by
                  have h1 := HJ.out.old
                  have h2 := goA_len a x.new.length b x.old y.old i
                  rw [h1]
                  omega
                have hGs : G + 1 ≤ wr.heap.size := by have := HJ.out.fz.at_.lt; omega
                obtain ⟨N, hN⟩ : ∃ N, N = z.old.length + x.old.length := ⟨_, rfl⟩
                have HNN := Lib.hid hN
                clear OXY hN
                go_wp2_with (at_builtin; refine wpList_append_at rfl _ _ rfl (G + 1) z.v1 z.old x.old rfl HW.out x.a1 x.c1 x.old.length rfl rfl hrr.out.1 hsr.out hGs hlen N HNN.out ?_)
                intro A' c' w' ho hg hat
                have hp := HJ.out.grown1 hg
                have gc2 := hp.c4
                have gf2 := hp.fz 4
                have HJN := Lib.hid (HJ.out.goes HNN.out ho hg hat)
                clear ho hg hat hp gc
                go_wp2_with fail
                go_meet
                case rel => exact ⟨_, by rw [HD.out], by rw [HIF.out]; exact HJN.out⟩
              · have hi : ¬ i = a := of_decide_eq_false HTB.out.symm
                have HIF : Hid ((if i = a then x.old else []) = []) := if_neg hi
                have HD : Hid (decide (a < i + 1) = decide (a < i)) := by show _ = _; rw [decide_eq_decide]; omega
                clear hi HTB
                go_wp2_with fail
                go_meet
                case rel => exact ⟨z, by rw [HD.out], by rw [HIF.out, List.append_nil]; exact HJ.out⟩
            case rest =>
              obtain ⟨zA, rfl, HJA⟩ := hcut
              generalize hwn : wc = wA at *
              clear hwn HJ HTB x3 x4 x5 y3 y4 y5
              obtain ⟨x3, x4, x5, y3, y4, y5⟩ := HC.out wA HJA.out.below
              go_upto_region 13 with (fail)
              go_cut [67] from 41 to 161 (fun t wx => ∃ tb : Bool, t = .bool tb ∧ Hid (tb = decide (i = b)) ∧ wx = wA)
              case first =>
                by_cases hi : i = b
                · have e1 : ((i : Int) == (b : Int)) = true := by rw [beq_iff_eq]; omega
                  have e2 : decide (b < i) = false := by rw [decide_eq_false_iff_not]; omega
                  have e3 := Lib.hid hi
                  clear hi
                  go_wp2_with fail
                  go_meet
                  case rel => exact ⟨true, rfl, (decide_eq_true e3.out).symm, rfl⟩
                · have e1 : ((i : Int) == (b : Int)) = false := by rw [beq_eq_false_iff_ne]; omega
                  have e3 := Lib.hid hi
                  clear hi
                  go_wp2_with fail
                  go_meet
                  case rel => exact ⟨false, rfl, (decide_eq_false e3.out).symm, rfl⟩
              case rest =>
                obtain ⟨tb, rfl, HTB, hwc⟩ := hcut
                replace hwc := hwc.symm
                subst hwc
                go_upto_if 67 with (fail)
                go_cut [8] from 41 to 161 (fun pv wx => ∃ z', pv = .bool (decide (b < i + 1)) ∧ Hid (HunkJ wl wx G x.p mn ((goA a x.new.length b x.old y.old i) ++ (if i = a then x.old else [])) ((goA b y.old.length a y.new x.new i) ++ (if i = b then y.new else [])) z'))
                case first =>
                  cases tb
                  rotate_left
                  · have hi : i = b := of_decide_eq_true HTB.out.symm
                    have HIF : Hid ((if i = b then y.new else []) = y.new) := if_pos hi
                    have HD : Hid (decide (b < i + 1) = true) := decide_eq_true (by omega)
                    clear hi HTB
                    have gc := HJA.out.fz.at_.c5
                    have HW := Lib.hid HJA.out.fz.o2
                    have OXY := HO5.out wA HJA.out.below
                    have hsr := Lib.hid OXY.2.h.new
                    have hrr := Lib.hid OXY.2.h.r2
                    have hlen : zA.new.length + y.new.length ≤ 1000000 := by
                      have h1 := HJA.out.new
                      have h2 := goA_len b y.old.length a y.new x.new i
                      rw [h1]
                      omega
                    have hGs : G + 1 ≤ wA.heap.size := by have := HJA.out.fz.at_.lt; omega
                    obtain ⟨N, hN⟩ : ∃ N, N = zA.new.length + y.new.length := ⟨_, rfl⟩
                    have HNN := Lib.hid hN
                    clear OXY hN
                    go_wp2_with (at_builtin; refine wpList_append_at rfl _ _ rfl (G + 1) zA.v2 zA.new y.new rfl HW.out y.a2 y.c2 y.new.length rfl rfl hrr.out.1 hsr.out hGs hlen N HNN.out ?_)
                    intro A' c' w' ho hg hat
                    have hp := HJA.out.grown2 hg
                    have gc2 := hp.c5
                    have gf2 := hp.fz 5
                    have HJN := Lib.hid (HJA.out.comes HNN.out ho hg hat)
                    clear ho hg hat hp gc
                    go_wp2_with fail
                    go_meet
                    case rel => exact ⟨_, by rw [HD.out], by rw [HIF.out]; exact HJN.out⟩
                  · have hi : ¬ i = b := of_decide_eq_false HTB.out.symm
                    have HIF : Hid ((if i = b then y.new else []) = []) := if_neg hi
                    have HD : Hid (decide (b < i + 1) = decide (b < i)) := by show _ = _; rw [decide_eq_decide]; omega
                    clear hi HTB
                    go_wp2_with fail
                    go_meet
                    case rel => exact ⟨zA, by rw [HD.out], by rw [HIF.out, List.append_nil]; exact HJA.out⟩
                case rest =>
                  obtain ⟨zB, rfl, HJB⟩ := hcut
                  generalize hwn : wc = wB at *
                  clear hwn HJA HTB x3 x4 x5 y3 y4 y5
                  obtain ⟨x3, x4, x5, y3, y4, y5⟩ := HC.out wB HJB.out.below
                  go_upto_region 16 with (fail)
                  go_cut [11] from 41 to 161 (fun t wx => ∃ tb : Bool, t = .bool tb ∧ Hid (tb = decide (a ≤ i ∧ i < a + x.new.length)) ∧ wx = wB)
                  case first =>
                    by_cases hi1 : i < a
                    · have q1 : (i : Int) < (a : Int) := by omega
                      have q2 : decide ((a : Int) ≤ (i : Int)) = false := by rw [decide_eq_false_iff_not]; omega
                      go_wp2_with fail
                      go_meet
                      case rel => exact ⟨_, rfl, by show _ = _; first | exact (decide_eq_true (by omega)).symm | exact (decide_eq_false (by omega)).symm | (rw [decide_eq_decide]; omega), rfl⟩
                    · have q1 : (a : Int) ≤ (i : Int) := by omega
                      have q2 : decide ((a : Int) ≤ (i : Int)) = true := by rw [decide_eq_true_eq]; omega
                      have q3 : IntKind.i64.wrap ((a : Int) + (x.new.length : Int)) = (a : Int) + (x.new.length : Int) := IntWalk.i64_in _ (by omega)
                      go_wp2_with fail
                      go_meet
                      case rel => exact ⟨_, rfl, by show _ = _; first | exact (decide_eq_true (by omega)).symm | exact (decide_eq_false (by omega)).symm | (rw [decide_eq_decide]; omega), rfl⟩
                  case rest =>
                    obtain ⟨mb, rfl, Hmb, hwc⟩ := hcut
                    replace hwc := hwc.symm
                    subst hwc
                    go_upto_region 17 with (fail)
                    go_cut [12] from 41 to 161 (fun t wx => ∃ tb : Bool, t = .bool tb ∧ Hid (tb = decide (b ≤ i ∧ i < b + y.old.length)) ∧ wx = wB)
                    case first =>
                      by_cases hi1 : i < b
                      · have q1 : (i : Int) < (b : Int) := by omega
                        have q2 : decide ((b : Int) ≤ (i : Int)) = false := by rw [decide_eq_false_iff_not]; omega
                        go_wp2_with fail
                        go_meet
                        case rel => exact ⟨_, rfl, by show _ = _; first | exact (decide_eq_true (by omega)).symm | exact (decide_eq_false (by omega)).symm | (rw [decide_eq_decide]; omega), rfl⟩
                      · have q1 : (b : Int) ≤ (i : Int) := by omega
                        have q2 : decide ((b : Int) ≤ (i : Int)) = true := by rw [decide_eq_true_eq]; omega
                        have q3 : IntKind.i64.wrap ((b : Int) + (y.old.length : Int)) = (b : Int) + (y.old.length : Int) := IntWalk.i64_in _ (by omega)
                        go_wp2_with fail
                        go_meet
                        case rel => exact ⟨_, rfl, by show _ = _; first | exact (decide_eq_true (by omega)).symm | exact (decide_eq_false (by omega)).symm | (rw [decide_eq_decide]; omega), rfl⟩
                    case rest =>
                      obtain ⟨hb, rfl, Hhb, hwc⟩ := hcut
                      replace hwc := hwc.symm
                      subst hwc
                      have hm := Hmb.out
                      have hh := Hhb.out
                      cases mb
                      · cases hb
                        · as_aux_lemma =>
                            have hm2 := of_decide_eq_false hm.symm
                            have hh2 := of_decide_eq_false hh.symm
                            clear hm hh Hmb Hhb
                            have HJz := Lib.hid (HJB.out.on (Below.refl wB.heap.size wB).drew)
                            have HAG2 : Hid (∀ j k (hj : j < x.new.length) (hk : k < y.old.length), a + j = b + k → a + j < i + 1 → x.new[j] = y.old[k]) := by
                              intro j k hj hk h1 h2
                              by_cases h3 : a + j < i
                              · exact HAG.out j k hj hk h1 h3
                              · exact absurd (show a ≤ i ∧ i < a + x.new.length by omega) hm2
                            have HJN2 : Hid (HunkJ wl wB.drew G x.p mn (goA a x.new.length b x.old y.old (i + 1)) (goA b y.old.length a y.new x.new (i + 1)) zB) := by
                              have e1 : lineA a x.new.length b y.old i = [] := by unfold lineA; rw [dif_neg (by omega)]
                              have e2 : lineA b y.old.length a x.new i = [] := by unfold lineA; rw [dif_neg (by omega)]
                              show HunkJ _ _ _ _ _ _ _ _
                              rw [goA_next, goA_next, e1, e2]
                              rw [List.append_nil]
                              rw [List.append_nil]
                              exact HJB.out.on (Below.refl wB.heap.size wB).drew
                            have HREL : Hid (∃ (i' : Nat) (z' : Pm), (.bool (decide (a < i + 1)) : Value) = .bool (decide (a < i')) ∧ (.bool (decide (b < i + 1)) : Value) = .bool (decide (b < i')) ∧ (.int .i64 ((i : Int) + 1) : Value) = .int .i64 (i' : Int) ∧ m0' ≤ i' ∧ i' ≤ L + 1 ∧ Hid (HunkJ wl wB.drew G x.p mn (goA a x.new.length b x.old y.old i') (goA b y.old.length a y.new x.new i') z') ∧ Hid (∀ j k (hj : j < x.new.length) (hk : k < y.old.length), a + j = b + k → a + j < i' → x.new[j] = y.old[k])) :=
                              ⟨i + 1, zB, rfl, rfl, by rw [Int.natCast_add]; rfl, by omega, by omega, HJN2.out, HAG2.out⟩
                            clear HJz
                            go_wp2_with fail
                            refine wp_region_noPanic ?_
                            refine wp_region_held_drew (S := (fun _ => True)) (by kernel_rfl) trivial (fun hHeld => ?_)
                            refine wpAnyH_take (i := 0) (oi := { dst := some 102, op := _, type := _, pos := _, after := _, guard := _ }) (v := .bool false) rfl (by kernel_rfl) (by kernel_rfl) (by kernel_rfl) (fun _ _ _ h => h) (Or.inl ⟨by rfl, fun w' hSw => ?_⟩) (by assumption) ?_
                            · ((try dsimp only at hSw); go_simp)
                            try simp only [Act.put, List.setIfInBounds_toArray, List.set_cons_zero, List.set_cons_succ]
                            refine wpAnyH_take (i := 1) (oi := { dst := some 103, op := _, type := _, pos := _, after := _, guard := _ }) (v := .bool false) rfl (by kernel_rfl) (by kernel_rfl) (by kernel_rfl) (fun _ _ _ h => h) (Or.inl ⟨by rfl, fun w' hSw => ?_⟩) (by assumption) ?_
                            · ((try dsimp only at hSw); go_simp)
                            try simp only [Act.put, List.setIfInBounds_toArray, List.set_cons_zero, List.set_cons_succ]
                            refine wpAnyH_take (i := 2) (oi := { dst := some 104, op := _, type := _, pos := _, after := _, guard := _ }) (v := undef) rfl (by kernel_rfl) (by kernel_rfl) (by kernel_rfl) (fun _ _ _ h => h) (Or.inr ⟨by rfl, rfl⟩) (by assumption) ?_
                            try simp only [Act.put, List.setIfInBounds_toArray, List.set_cons_zero, List.set_cons_succ]
                            refine wpAnyH_take (i := 3) (oi := { dst := some 105, op := _, type := _, pos := _, after := _, guard := _ }) (v := .bool false) rfl (by kernel_rfl) (by kernel_rfl) (by kernel_rfl) (fun _ _ _ h => h) (Or.inl ⟨by rfl, fun w' hSw => ?_⟩) (by assumption) ?_
                            · ((try dsimp only at hSw); go_simp)
                            try simp only [Act.put, List.setIfInBounds_toArray, List.set_cons_zero, List.set_cons_succ]
                            refine wpAnyH_take (i := 4) (oi := { dst := some 106, op := _, type := _, pos := _, after := _, guard := _ }) (v := .bool false) rfl (by kernel_rfl) (by kernel_rfl) (by kernel_rfl) (fun _ _ _ h => h) (Or.inl ⟨by rfl, fun w' hSw => ?_⟩) (by assumption) ?_
                            · ((try dsimp only at hSw); go_simp)
                            try simp only [Act.put, List.setIfInBounds_toArray, List.set_cons_zero, List.set_cons_succ]
                            refine wpAnyH_take (i := 5) (oi := { dst := some 107, op := _, type := _, pos := _, after := _, guard := _ }) (v := undef) rfl (by kernel_rfl) (by kernel_rfl) (by kernel_rfl) (fun _ _ _ h => h) (Or.inr ⟨by rfl, rfl⟩) (by assumption) ?_
                            try simp only [Act.put, List.setIfInBounds_toArray, List.set_cons_zero, List.set_cons_succ]
                            refine wpAnyH_take (i := 6) (oi := { dst := some 108, op := _, type := _, pos := _, after := _, guard := _ }) (v := undef) rfl (by kernel_rfl) (by kernel_rfl) (by kernel_rfl) (fun _ _ _ h => h) (Or.inr ⟨by rfl, rfl⟩) (by assumption) ?_
                            try simp only [Act.put, List.setIfInBounds_toArray, List.set_cons_zero, List.set_cons_succ]
                            refine wpAnyH_take (i := 7) (oi := { dst := some 109, op := _, type := _, pos := _, after := _, guard := _ }) (v := undef) rfl (by kernel_rfl) (by kernel_rfl) (by kernel_rfl) (fun _ _ _ h => h) (Or.inr ⟨by rfl, rfl⟩) (by assumption) ?_
                            try simp only [Act.put, List.setIfInBounds_toArray, List.set_cons_zero, List.set_cons_succ]
                            refine wpAnyH_take (i := 8) (oi := { dst := some 110, op := _, type := _, pos := _, after := _, guard := _ }) (v := undef) rfl (by kernel_rfl) (by kernel_rfl) (by kernel_rfl) (fun _ _ _ h => h) (Or.inr ⟨by rfl, rfl⟩) (by assumption) ?_
                            try simp only [Act.put, List.setIfInBounds_toArray, List.set_cons_zero, List.set_cons_succ]
                            refine wpAnyH_take (i := 9) (oi := { dst := some 111, op := _, type := _, pos := _, after := _, guard := _ }) (v := undef) rfl (by kernel_rfl) (by kernel_rfl) (by kernel_rfl) (fun _ _ _ h => h) (Or.inr ⟨by rfl, rfl⟩) (by assumption) ?_
                            try simp only [Act.put, List.setIfInBounds_toArray, List.set_cons_zero, List.set_cons_succ]
                            refine wpAnyH_take (i := 10) (oi := { dst := some 112, op := _, type := _, pos := _, after := _, guard := _ }) (v := undef) rfl (by kernel_rfl) (by kernel_rfl) (by kernel_rfl) (fun _ _ _ h => h) (Or.inr ⟨by rfl, rfl⟩) (by assumption) ?_
                            try simp only [Act.put, List.setIfInBounds_toArray, List.set_cons_zero, List.set_cons_succ]
                            refine wpAnyH_take (i := 11) (oi := { dst := some 113, op := _, type := _, pos := _, after := _, guard := _ }) (v := undef) rfl (by kernel_rfl) (by kernel_rfl) (by kernel_rfl) (fun _ _ _ h => h) (Or.inr ⟨by rfl, rfl⟩) (by assumption) ?_
                            try simp only [Act.put, List.setIfInBounds_toArray, List.set_cons_zero, List.set_cons_succ]
                            refine wpAnyH_take (i := 12) (oi := { dst := some 114, op := _, type := _, pos := _, after := _, guard := _ }) (v := undef) rfl (by kernel_rfl) (by kernel_rfl) (by kernel_rfl) (fun _ _ _ h => h) (Or.inr ⟨by rfl, rfl⟩) (by assumption) ?_
                            try simp only [Act.put, List.setIfInBounds_toArray, List.set_cons_zero, List.set_cons_succ]
                            refine wpAnyH_take (i := 13) (oi := { dst := some 115, op := _, type := _, pos := _, after := _, guard := _ }) (v := undef) rfl (by kernel_rfl) (by kernel_rfl) (by kernel_rfl) (fun _ _ _ h => h) (Or.inr ⟨by rfl, rfl⟩) (by assumption) ?_
                            try simp only [Act.put, List.setIfInBounds_toArray, List.set_cons_zero, List.set_cons_succ]
                            refine wpAnyH_take (i := 14) (oi := { dst := some 116, op := _, type := _, pos := _, after := _, guard := _ }) (v := undef) rfl (by kernel_rfl) (by kernel_rfl) (by kernel_rfl) (fun _ _ _ h => h) (Or.inr ⟨by rfl, rfl⟩) (by assumption) ?_
                            try simp only [Act.put, List.setIfInBounds_toArray, List.set_cons_zero, List.set_cons_succ]
                            refine wpAnyH_take (i := 15) (oi := { dst := some 117, op := _, type := _, pos := _, after := _, guard := _ }) (v := undef) rfl (by kernel_rfl) (by kernel_rfl) (by kernel_rfl) (fun _ _ _ h => h) (Or.inr ⟨by rfl, rfl⟩) (by assumption) ?_
                            try simp only [Act.put, List.setIfInBounds_toArray, List.set_cons_zero, List.set_cons_succ]
                            refine wpAnyH_take (i := 16) (oi := { dst := some 118, op := _, type := _, pos := _, after := _, guard := _ }) (v := undef) rfl (by kernel_rfl) (by kernel_rfl) (by kernel_rfl) (fun _ _ _ h => h) (Or.inr ⟨by rfl, rfl⟩) (by assumption) ?_
                            try simp only [Act.put, List.setIfInBounds_toArray, List.set_cons_zero, List.set_cons_succ]
                            refine wpAnyH_take (i := 17) (oi := { dst := some 119, op := _, type := _, pos := _, after := _, guard := _ }) (v := undef) rfl (by kernel_rfl) (by kernel_rfl) (by kernel_rfl) (fun _ _ _ h => h) (Or.inr ⟨by rfl, rfl⟩) (by assumption) ?_
                            try simp only [Act.put, List.setIfInBounds_toArray, List.set_cons_zero, List.set_cons_succ]
                            refine wpAnyH_take (i := 18) (oi := { dst := some 120, op := _, type := _, pos := _, after := _, guard := _ }) (v := undef) rfl (by kernel_rfl) (by kernel_rfl) (by kernel_rfl) (fun _ _ _ h => h) (Or.inr ⟨by rfl, rfl⟩) (by assumption) ?_
                            try simp only [Act.put, List.setIfInBounds_toArray, List.set_cons_zero, List.set_cons_succ]
                            refine wpAnyH_take (i := 19) (oi := { dst := some 121, op := _, type := _, pos := _, after := _, guard := _ }) (v := undef) rfl (by kernel_rfl) (by kernel_rfl) (by kernel_rfl) (fun _ _ _ h => h) (Or.inr ⟨by rfl, rfl⟩) (by assumption) ?_
                            try simp only [Act.put, List.setIfInBounds_toArray, List.set_cons_zero, List.set_cons_succ]
                            refine wpAnyH_take (i := 20) (oi := { dst := some 122, op := _, type := _, pos := _, after := _, guard := _ }) (v := undef) rfl (by kernel_rfl) (by kernel_rfl) (by kernel_rfl) (fun _ _ _ h => h) (Or.inr ⟨by rfl, rfl⟩) (by assumption) ?_
                            try simp only [Act.put, List.setIfInBounds_toArray, List.set_cons_zero, List.set_cons_succ]
                            refine wpAnyH_take (i := 21) (oi := { dst := some 123, op := _, type := _, pos := _, after := _, guard := _ }) (v := undef) rfl (by kernel_rfl) (by kernel_rfl) (by kernel_rfl) (fun _ _ _ h => h) (Or.inr ⟨by rfl, rfl⟩) (by assumption) ?_
                            try simp only [Act.put, List.setIfInBounds_toArray, List.set_cons_zero, List.set_cons_succ]
                            refine wpAnyH_take (i := 22) (oi := { dst := some 124, op := _, type := _, pos := _, after := _, guard := _ }) (v := .bool false) rfl (by kernel_rfl) (by kernel_rfl) (by kernel_rfl) (fun _ _ _ h => h) (Or.inl ⟨by rfl, fun w' hSw => ?_⟩) (by assumption) ?_
                            · ((try dsimp only at hSw); go_simp)
                            try simp only [Act.put, List.setIfInBounds_toArray, List.set_cons_zero, List.set_cons_succ]
                            refine wpAnyH_done (by kernel_rfl) ?_ _
                            refine NoPanic.normal ?_
                            go_wp2
                            go_roundw
                            case rel =>
                              exact HREL.out
                            case measure => simp [intOf]; omega
                        · as_aux_lemma =>
                            have hm2 := of_decide_eq_false hm.symm
                            have hh2 := of_decide_eq_true hh.symm
                            clear hm hh Hmb Hhb
                            have HJz := Lib.hid (HJB.out.on (Below.refl wB.heap.size wB).drew)
                            obtain ⟨x3, x4, x5, y3, y4, y5⟩ := HC.out _ HJz.out.below
                            go_wp2_with fail
                            refine wp_region_noPanic ?_
                            refine wp_region_held_drew (S := (fun _ => True)) (by kernel_rfl) trivial (fun hHeld => ?_)
                            refine wpAnyH_take (i := 0) (oi := { dst := some 102, op := _, type := _, pos := _, after := _, guard := _ }) (v := .bool false) rfl (by kernel_rfl) (by kernel_rfl) (by kernel_rfl) (fun _ _ _ h => h) (Or.inl ⟨by rfl, fun w' hSw => ?_⟩) (by assumption) ?_
                            · ((try dsimp only at hSw); go_simp)
                            try simp only [Act.put, List.setIfInBounds_toArray, List.set_cons_zero, List.set_cons_succ]
                            refine wpAnyH_take (i := 1) (oi := { dst := some 103, op := _, type := _, pos := _, after := _, guard := _ }) (v := .bool false) rfl (by kernel_rfl) (by kernel_rfl) (by kernel_rfl) (fun _ _ _ h => h) (Or.inl ⟨by rfl, fun w' hSw => ?_⟩) (by assumption) ?_
                            · ((try dsimp only at hSw); go_simp)
                            try simp only [Act.put, List.setIfInBounds_toArray, List.set_cons_zero, List.set_cons_succ]
                            refine wpAnyH_take (i := 2) (oi := { dst := some 104, op := _, type := _, pos := _, after := _, guard := _ }) (v := undef) rfl (by kernel_rfl) (by kernel_rfl) (by kernel_rfl) (fun _ _ _ h => h) (Or.inr ⟨by rfl, rfl⟩) (by assumption) ?_
                            try simp only [Act.put, List.setIfInBounds_toArray, List.set_cons_zero, List.set_cons_succ]
                            refine wpAnyH_take (i := 3) (oi := { dst := some 105, op := _, type := _, pos := _, after := _, guard := _ }) (v := .bool false) rfl (by kernel_rfl) (by kernel_rfl) (by kernel_rfl) (fun _ _ _ h => h) (Or.inl ⟨by rfl, fun w' hSw => ?_⟩) (by assumption) ?_
                            · ((try dsimp only at hSw); go_simp)
                            try simp only [Act.put, List.setIfInBounds_toArray, List.set_cons_zero, List.set_cons_succ]
                            refine wpAnyH_take (i := 4) (oi := { dst := some 106, op := _, type := _, pos := _, after := _, guard := _ }) (v := .bool false) rfl (by kernel_rfl) (by kernel_rfl) (by kernel_rfl) (fun _ _ _ h => h) (Or.inl ⟨by rfl, fun w' hSw => ?_⟩) (by assumption) ?_
                            · ((try dsimp only at hSw); go_simp)
                            try simp only [Act.put, List.setIfInBounds_toArray, List.set_cons_zero, List.set_cons_succ]
                            refine wpAnyH_take (i := 5) (oi := { dst := some 107, op := _, type := _, pos := _, after := _, guard := _ }) (v := undef) rfl (by kernel_rfl) (by kernel_rfl) (by kernel_rfl) (fun _ _ _ h => h) (Or.inr ⟨by rfl, rfl⟩) (by assumption) ?_
                            try simp only [Act.put, List.setIfInBounds_toArray, List.set_cons_zero, List.set_cons_succ]
                            refine wpAnyH_take (i := 6) (oi := { dst := some 108, op := _, type := _, pos := _, after := _, guard := _ }) (v := undef) rfl (by kernel_rfl) (by kernel_rfl) (by kernel_rfl) (fun _ _ _ h => h) (Or.inr ⟨by rfl, rfl⟩) (by assumption) ?_
                            try simp only [Act.put, List.setIfInBounds_toArray, List.set_cons_zero, List.set_cons_succ]
                            refine wpAnyH_take (i := 7) (oi := { dst := some 109, op := _, type := _, pos := _, after := _, guard := _ }) (v := undef) rfl (by kernel_rfl) (by kernel_rfl) (by kernel_rfl) (fun _ _ _ h => h) (Or.inr ⟨by rfl, rfl⟩) (by assumption) ?_
                            try simp only [Act.put, List.setIfInBounds_toArray, List.set_cons_zero, List.set_cons_succ]
                            refine wpAnyH_take (i := 8) (oi := { dst := some 110, op := _, type := _, pos := _, after := _, guard := _ }) (v := undef) rfl (by kernel_rfl) (by kernel_rfl) (by kernel_rfl) (fun _ _ _ h => h) (Or.inr ⟨by rfl, rfl⟩) (by assumption) ?_
                            try simp only [Act.put, List.setIfInBounds_toArray, List.set_cons_zero, List.set_cons_succ]
                            refine wpAnyH_take (i := 9) (oi := { dst := some 111, op := _, type := _, pos := _, after := _, guard := _ }) (v := undef) rfl (by kernel_rfl) (by kernel_rfl) (by kernel_rfl) (fun _ _ _ h => h) (Or.inr ⟨by rfl, rfl⟩) (by assumption) ?_
                            try simp only [Act.put, List.setIfInBounds_toArray, List.set_cons_zero, List.set_cons_succ]
                            refine wpAnyH_take (i := 10) (oi := { dst := some 112, op := _, type := _, pos := _, after := _, guard := _ }) (v := undef) rfl (by kernel_rfl) (by kernel_rfl) (by kernel_rfl) (fun _ _ _ h => h) (Or.inr ⟨by rfl, rfl⟩) (by assumption) ?_
                            try simp only [Act.put, List.setIfInBounds_toArray, List.set_cons_zero, List.set_cons_succ]
                            refine wpAnyH_take (i := 11) (oi := { dst := some 113, op := _, type := _, pos := _, after := _, guard := _ }) (v := undef) rfl (by kernel_rfl) (by kernel_rfl) (by kernel_rfl) (fun _ _ _ h => h) (Or.inr ⟨by rfl, rfl⟩) (by assumption) ?_
                            try simp only [Act.put, List.setIfInBounds_toArray, List.set_cons_zero, List.set_cons_succ]
                            refine wpAnyH_take (i := 12) (oi := { dst := some 114, op := _, type := _, pos := _, after := _, guard := _ }) (v := undef) rfl (by kernel_rfl) (by kernel_rfl) (by kernel_rfl) (fun _ _ _ h => h) (Or.inr ⟨by rfl, rfl⟩) (by assumption) ?_
                            try simp only [Act.put, List.setIfInBounds_toArray, List.set_cons_zero, List.set_cons_succ]
                            refine wpAnyH_take (i := 13) (oi := { dst := some 115, op := _, type := _, pos := _, after := _, guard := _ }) (v := undef) rfl (by kernel_rfl) (by kernel_rfl) (by kernel_rfl) (fun _ _ _ h => h) (Or.inr ⟨by rfl, rfl⟩) (by assumption) ?_
                            try simp only [Act.put, List.setIfInBounds_toArray, List.set_cons_zero, List.set_cons_succ]
                            refine wpAnyH_take (i := 14) (oi := { dst := some 116, op := _, type := _, pos := _, after := _, guard := _ }) (v := undef) rfl (by kernel_rfl) (by kernel_rfl) (by kernel_rfl) (fun _ _ _ h => h) (Or.inr ⟨by rfl, rfl⟩) (by assumption) ?_
                            try simp only [Act.put, List.setIfInBounds_toArray, List.set_cons_zero, List.set_cons_succ]
                            refine wpAnyH_take (i := 15) (oi := { dst := some 117, op := _, type := _, pos := _, after := _, guard := _ }) (v := undef) rfl (by kernel_rfl) (by kernel_rfl) (by kernel_rfl) (fun _ _ _ h => h) (Or.inr ⟨by rfl, rfl⟩) (by assumption) ?_
                            try simp only [Act.put, List.setIfInBounds_toArray, List.set_cons_zero, List.set_cons_succ]
                            refine wpAnyH_take (i := 16) (oi := { dst := some 118, op := _, type := _, pos := _, after := _, guard := _ }) (v := undef) rfl (by kernel_rfl) (by kernel_rfl) (by kernel_rfl) (fun _ _ _ h => h) (Or.inr ⟨by rfl, rfl⟩) (by assumption) ?_
                            try simp only [Act.put, List.setIfInBounds_toArray, List.set_cons_zero, List.set_cons_succ]
                            refine wpAnyH_take (i := 17) (oi := { dst := some 119, op := _, type := _, pos := _, after := _, guard := _ }) (v := undef) rfl (by kernel_rfl) (by kernel_rfl) (by kernel_rfl) (fun _ _ _ h => h) (Or.inr ⟨by rfl, rfl⟩) (by assumption) ?_
                            try simp only [Act.put, List.setIfInBounds_toArray, List.set_cons_zero, List.set_cons_succ]
                            refine wpAnyH_take (i := 18) (oi := { dst := some 120, op := _, type := _, pos := _, after := _, guard := _ }) (v := undef) rfl (by kernel_rfl) (by kernel_rfl) (by kernel_rfl) (fun _ _ _ h => h) (Or.inr ⟨by rfl, rfl⟩) (by assumption) ?_
                            try simp only [Act.put, List.setIfInBounds_toArray, List.set_cons_zero, List.set_cons_succ]
                            refine wpAnyH_take (i := 19) (oi := { dst := some 121, op := _, type := _, pos := _, after := _, guard := _ }) (v := undef) rfl (by kernel_rfl) (by kernel_rfl) (by kernel_rfl) (fun _ _ _ h => h) (Or.inr ⟨by rfl, rfl⟩) (by assumption) ?_
                            try simp only [Act.put, List.setIfInBounds_toArray, List.set_cons_zero, List.set_cons_succ]
                            refine wpAnyH_take (i := 20) (oi := { dst := some 122, op := _, type := _, pos := _, after := _, guard := _ }) (v := undef) rfl (by kernel_rfl) (by kernel_rfl) (by kernel_rfl) (fun _ _ _ h => h) (Or.inr ⟨by rfl, rfl⟩) (by assumption) ?_
                            try simp only [Act.put, List.setIfInBounds_toArray, List.set_cons_zero, List.set_cons_succ]
                            refine wpAnyH_take (i := 21) (oi := { dst := some 123, op := _, type := _, pos := _, after := _, guard := _ }) (v := undef) rfl (by kernel_rfl) (by kernel_rfl) (by kernel_rfl) (fun _ _ _ h => h) (Or.inr ⟨by rfl, rfl⟩) (by assumption) ?_
                            try simp only [Act.put, List.setIfInBounds_toArray, List.set_cons_zero, List.set_cons_succ]
                            refine wpAnyH_take (i := 22) (oi := { dst := some 124, op := _, type := _, pos := _, after := _, guard := _ }) (v := .bool false) rfl (by kernel_rfl) (by kernel_rfl) (by kernel_rfl) (fun _ _ _ h => h) (Or.inl ⟨by rfl, fun w' hSw => ?_⟩) (by assumption) ?_
                            · ((try dsimp only at hSw); go_simp)
                            try simp only [Act.put, List.setIfInBounds_toArray, List.set_cons_zero, List.set_cons_succ]
                            refine wpAnyH_done (by kernel_rfl) ?_ _
                            refine NoPanic.normal ?_
                            generalize hwz : wB.drew = wz at *
                            clear hwz
                            obtain ⟨jb, hjb⟩ : ∃ j : Nat, i = b + j := ⟨i - b, by omega⟩
                            have ljb : jb < y.old.length := by omega
                            have hsjb : Strs wz wz.heap.size y.a1 (toBs y.old) := (HO5.out wz HJz.out.below).2.h.old
                            obtain ⟨gjb, fjb, hgjb, _, cjb⟩ := hsjb.at_ (k := jb) (by rw [toBs_len]; exact ljb)
                            have ejb : (toBs y.old)[jb]'(by rw [toBs_len]; exact ljb) = toB y.old[jb] := by simp [toBs]
                            rw [ejb] at cjb
                            have sjb : (i : Int) - (b : Int) = (jb : Int) := by omega
                            have tjb : (jb : Int) < (y.old.length : Int) := by omega
                            have ujb : (0 : Int) ≤ (jb : Int) := by omega
                            have vjb : IntKind.i64.wrap (jb : Int) = (jb : Int) := IntWalk.i64_in _ (by omega)
                            clear ejb hsjb
                            rw [hgjb] at y4
                            clear hgjb
                            have hrel2 : ∀ gb cb W, HunkJ wl W G x.p mn (((goA a x.new.length b x.old y.old i) ++ (if i = a then x.old else [])) ++ [y.old[jb]]) ((goA b y.old.length a y.new x.new i) ++ (if i = b then y.new else [])) { zB with a1 := some ⟨gb, 0, none⟩, c1 := cb, old := zB.old ++ [y.old[jb]] } → (∃ (i' : Nat) (z' : Pm), (.bool (decide (a < i + 1)) : Value) = .bool (decide (a < i')) ∧ (.bool (decide (b < i + 1)) : Value) = .bool (decide (b < i')) ∧ (.int .i64 ((i : Int) + 1) : Value) = .int .i64 (i' : Int) ∧ m0' ≤ i' ∧ i' ≤ L + 1 ∧ Hid (HunkJ wl W G x.p mn (goA a x.new.length b x.old y.old i') (goA b y.old.length a y.new x.new i') z') ∧ Hid (∀ j k (hj : j < x.new.length) (hk : k < y.old.length), a + j = b + k → a + j < i' → x.new[j] = y.old[k])) := by
                              intro gb cb W hJ
                              have HAG2 : Hid (∀ j k (hj : j < x.new.length) (hk : k < y.old.length), a + j = b + k → a + j < i + 1 → x.new[j] = y.old[k]) := by
                                intro j k hj hk h1 h2
                                by_cases h3 : a + j < i
                                · exact HAG.out j k hj hk h1 h3
                                · exact absurd (show a ≤ i ∧ i < a + x.new.length by omega) hm2
                              have HJN2 : Hid (HunkJ wl W G x.p mn (goA a x.new.length b x.old y.old (i + 1)) (goA b y.old.length a y.new x.new (i + 1)) { zB with a1 := some ⟨gb, 0, none⟩, c1 := cb, old := zB.old ++ [y.old[jb]] }) := by
                                have e1 : lineA a x.new.length b y.old i = [y.old[jb]] := by unfold lineA; rw [dif_pos (by omega)]; simp only [show i - b = jb by omega]
                                have e2 : lineA b y.old.length a x.new i = [] := by unfold lineA; rw [dif_neg (by omega)]
                                show HunkJ _ _ _ _ _ _ _ _
                                rw [goA_next, goA_next, e1, e2]
                                skip
                                rw [List.append_nil]
                                exact hJ
                              have HREL : Hid (∃ (i' : Nat) (z' : Pm), (.bool (decide (a < i + 1)) : Value) = .bool (decide (a < i')) ∧ (.bool (decide (b < i + 1)) : Value) = .bool (decide (b < i')) ∧ (.int .i64 ((i : Int) + 1) : Value) = .int .i64 (i' : Int) ∧ m0' ≤ i' ∧ i' ≤ L + 1 ∧ Hid (HunkJ wl W G x.p mn (goA a x.new.length b x.old y.old i') (goA b y.old.length a y.new x.new i') z') ∧ Hid (∀ j k (hj : j < x.new.length) (hk : k < y.old.length), a + j = b + k → a + j < i' → x.new[j] = y.old[k])) :=
                                ⟨i + 1, { zB with a1 := some ⟨gb, 0, none⟩, c1 := cb, old := zB.old ++ [y.old[jb]] }, rfl, rfl, by rw [Int.natCast_add]; rfl, by omega, by omega, HJN2.out, HAG2.out⟩
                              exact HREL.out
                            clear hjb HJB
                            obtain ⟨str, hstr⟩ : ∃ s, toB y.old[jb] = s := ⟨_, rfl⟩
                            rw [hstr] at cjb
                            have HSTR := Lib.hid hstr
                            clear hstr
                            obtain ⟨i0, hi0, hz0, hz1, hz2⟩ := info_parts info_str
                            have hb1 : ∀ q, Below wz.heap.size wz ((wz.drewN q).alloc (.cells #[.string str] 9)) := fun q => (below_drewN (Below.refl _ _) q).alloc (Nat.le_refl _) _
                            have hb2 : Below wz.heap.size wz (wz.alloc (.cells #[.string str] 9)).drew := ((Below.refl _ _).alloc (Nat.le_refl _) _).drew
                            have HOWN := Lib.hid (fun W (hb : Below wz.heap.size wz W) => (HJz.out.on hb).fz.o1)
                            have HNEWS1 := Lib.hid (fun q : Nat => World.news_of_block (heap_alloc_new (wz.drewN q) (.cells #[.string str] 9)))
                            have HNEWS2 : Hid (∀ j u, (#[.string str] : Array Value).toList[j]? = some u → (wz.alloc (.cells #[.string str] 9)).drew.cell? ((⟨wz.heap.size, 0, none⟩ : Addr).add j) = some u) := World.news_of_block (w := (wz.alloc (.cells #[.string str] 9)).drew) (heap_alloc_new wz (.cells #[.string str] 9))
                            have HK : Hid (∀ W, Below wz.heap.size wz W → ∀ gb cb w2, w2.ownsRow (G + 1) 9 1 (.slice (some ⟨gb, 0, none⟩) (zB.old.length + 1) cb) (zB.old.length + 1) (zB.old.map encStr ++ [.string str]) → W.grownBy w2 zB.v1.ownBlock → (zB.v1.ownBlock = some gb ∨ gb = W.heap.size) →
                                HunkJ wl (w2.setCell ⟨G, 4, none⟩ (.slice (some ⟨gb, 0, none⟩) (zB.old.length + 1) cb)) G x.p mn (((goA a x.new.length b x.old y.old i) ++ (if i = a then x.old else [])) ++ [y.old[jb]]) ((goA b y.old.length a y.new x.new i) ++ (if i = b then y.new else [])) { zB with a1 := some ⟨gb, 0, none⟩, c1 := cb, old := zB.old ++ [y.old[jb]] } ∧ w2.frozen? ⟨G, 4, none⟩ = false ∧ w2.cell? ⟨G, 4, none⟩ = some (.slice zB.a1 zB.old.length zB.c1)) := by
                              intro W hW gb cb w2 ho hg hat
                              have ho' : OwnS w2 (G + 1) (.slice (some ⟨gb, 0, none⟩) (zB.old.length + 1) cb) (zB.old ++ [y.old[jb]]) := by
                                unfold OwnS
                                rw [List.length_append, List.map_append]
                                rw [← HSTR.out] at ho
                                exact ho
                              have hJ := HJz.out.on hW
                              refine ⟨hJ.goes (tt := [y.old[jb]]) rfl ho' hg ?_, (hJ.grown1 hg).fz 4, (hJ.grown1 hg).c4⟩
                              rcases hat with h | rfl
                              · exact .inl h.symm
                              · exact .inr rfl
                            have hcap : zB.old.length + 1 ≤ 20000 := by
                              have h1 := HJz.out.old
                              have h2 := goA_len a x.new.length b x.old y.old i
                              rw [h1, List.length_append]
                              split <;> (try simp only [List.length_nil]) <;> omega
                            have gc := HJz.out.fz.at_.c4
                            have fA : ∀ q : Nat, ((wz.drewN q).alloc (.cells #[.string str] 9)).cell? ⟨G, 4, none⟩ = some (.slice zB.a1 zB.old.length zB.c1) := fun q => (HJz.out.on (hb1 q)).fz.at_.c4
                            have fB : (wz.alloc (.cells #[.string str] 9)).drew.cell? ⟨G, 4, none⟩ = some (.slice zB.a1 zB.old.length zB.c1) := (HJz.out.on hb2).fz.at_.c4
                            have hGz : G + 1 ≤ wz.heap.size := by have := HJz.out.fz.at_.lt; omega
                            have HB1 := Lib.hid hb1
                            have HB2 := Lib.hid hb2
                            have HREL := Lib.hid hrel2
                            clear hb1 hb2 hrel2
                            go_wp2_with fail
                            go_region_law (refine step_append_lies _ rfl (.tmp 132) (.tmp 141) _ rfl (G + 1) _ i0 (.string ByteArray.empty) 1 16 Tryz.underlying36 hi0 hz0 hz1 hz2 rfl (by decide) (.slice zB.a1 zB.old.length zB.c1) zB.old.length (zB.old.map encStr) (by simp [Act.eval]) (HOWN.out _ (by first | exact HB1.out _ | exact HB2.out)) ⟨wz.heap.size, 0, none⟩ 1 1 [.string str] (by simp [Act.eval]) rfl (by first | exact HNEWS1.out _ | exact HNEWS2.out) (by intro u hu; simp at hu; subst hu; rfl) (by decide) (by unfold maxLen; omega) (by omega) (by simp; omega) _ rfl ?_; intro gb cb w2 hob hgb hatb _; obtain ⟨hres, hfr, hce⟩ := HK.out _ (by first | exact HB1.out _ | exact HB2.out) gb cb w2 hob hgb hatb; have HRES := Lib.hid (HREL.out gb cb _ hres); clear hob hgb hatb hres)
                            all_goals
                              go_wp2
                              go_roundw
                              case rel =>
                                first
                                | exact HRES.out
                                | ((repeat apply Exists.intro); exact ⟨HRES.out, rfl⟩)
                              case measure => simp [intOf]; omega
                      · cases hb
                        · as_aux_lemma =>
                            have hm2 := of_decide_eq_true hm.symm
                            have hh2 := of_decide_eq_false hh.symm
                            clear hm hh Hmb Hhb
                            have HJz := Lib.hid (HJB.out.on (Below.refl wB.heap.size wB).drew)
                            obtain ⟨x3, x4, x5, y3, y4, y5⟩ := HC.out _ HJz.out.below
                            go_wp2_with fail
                            refine wp_region_noPanic ?_
                            refine wp_region_held_drew (S := (fun _ => True)) (by kernel_rfl) trivial (fun hHeld => ?_)
                            refine wpAnyH_take (i := 0) (oi := { dst := some 102, op := _, type := _, pos := _, after := _, guard := _ }) (v := .bool true) rfl (by kernel_rfl) (by kernel_rfl) (by kernel_rfl) (fun _ _ _ h => h) (Or.inl ⟨by rfl, fun w' hSw => ?_⟩) (by assumption) ?_
                            · ((try dsimp only at hSw); go_simp)
                            try simp only [Act.put, List.setIfInBounds_toArray, List.set_cons_zero, List.set_cons_succ]
                            refine wpAnyH_take (i := 1) (oi := { dst := some 103, op := _, type := _, pos := _, after := _, guard := _ }) (v := .bool true) rfl (by kernel_rfl) (by kernel_rfl) (by kernel_rfl) (fun _ _ _ h => h) (Or.inl ⟨by rfl, fun w' hSw => ?_⟩) (by assumption) ?_
                            · ((try dsimp only at hSw); go_simp)
                            try simp only [Act.put, List.setIfInBounds_toArray, List.set_cons_zero, List.set_cons_succ]
                            refine wpAnyH_take (i := 2) (oi := { dst := some 104, op := _, type := _, pos := _, after := _, guard := _ }) (v := .bool false) rfl (by kernel_rfl) (by kernel_rfl) (by kernel_rfl) (fun _ _ _ h => h) (Or.inl ⟨by rfl, fun w' hSw => ?_⟩) (by assumption) ?_
                            · ((try dsimp only at hSw); go_simp)
                            try simp only [Act.put, List.setIfInBounds_toArray, List.set_cons_zero, List.set_cons_succ]
                            refine wpAnyH_take (i := 3) (oi := { dst := some 105, op := _, type := _, pos := _, after := _, guard := _ }) (v := .bool false) rfl (by kernel_rfl) (by kernel_rfl) (by kernel_rfl) (fun _ _ _ h => h) (Or.inl ⟨by rfl, fun w' hSw => ?_⟩) (by assumption) ?_
                            · ((try dsimp only at hSw); go_simp)
                            try simp only [Act.put, List.setIfInBounds_toArray, List.set_cons_zero, List.set_cons_succ]
                            refine wpAnyH_take (i := 4) (oi := { dst := some 106, op := _, type := _, pos := _, after := _, guard := _ }) (v := .bool false) rfl (by kernel_rfl) (by kernel_rfl) (by kernel_rfl) (fun _ _ _ h => h) (Or.inl ⟨by rfl, fun w' hSw => ?_⟩) (by assumption) ?_
                            · ((try dsimp only at hSw); go_simp)
                            try simp only [Act.put, List.setIfInBounds_toArray, List.set_cons_zero, List.set_cons_succ]
                            refine wpAnyH_take (i := 5) (oi := { dst := some 107, op := _, type := _, pos := _, after := _, guard := _ }) (v := undef) rfl (by kernel_rfl) (by kernel_rfl) (by kernel_rfl) (fun _ _ _ h => h) (Or.inr ⟨by rfl, rfl⟩) (by assumption) ?_
                            try simp only [Act.put, List.setIfInBounds_toArray, List.set_cons_zero, List.set_cons_succ]
                            refine wpAnyH_take (i := 6) (oi := { dst := some 108, op := _, type := _, pos := _, after := _, guard := _ }) (v := undef) rfl (by kernel_rfl) (by kernel_rfl) (by kernel_rfl) (fun _ _ _ h => h) (Or.inr ⟨by rfl, rfl⟩) (by assumption) ?_
                            try simp only [Act.put, List.setIfInBounds_toArray, List.set_cons_zero, List.set_cons_succ]
                            refine wpAnyH_take (i := 7) (oi := { dst := some 109, op := _, type := _, pos := _, after := _, guard := _ }) (v := undef) rfl (by kernel_rfl) (by kernel_rfl) (by kernel_rfl) (fun _ _ _ h => h) (Or.inr ⟨by rfl, rfl⟩) (by assumption) ?_
                            try simp only [Act.put, List.setIfInBounds_toArray, List.set_cons_zero, List.set_cons_succ]
                            refine wpAnyH_take (i := 8) (oi := { dst := some 110, op := _, type := _, pos := _, after := _, guard := _ }) (v := undef) rfl (by kernel_rfl) (by kernel_rfl) (by kernel_rfl) (fun _ _ _ h => h) (Or.inr ⟨by rfl, rfl⟩) (by assumption) ?_
                            try simp only [Act.put, List.setIfInBounds_toArray, List.set_cons_zero, List.set_cons_succ]
                            refine wpAnyH_take (i := 9) (oi := { dst := some 111, op := _, type := _, pos := _, after := _, guard := _ }) (v := undef) rfl (by kernel_rfl) (by kernel_rfl) (by kernel_rfl) (fun _ _ _ h => h) (Or.inr ⟨by rfl, rfl⟩) (by assumption) ?_
                            try simp only [Act.put, List.setIfInBounds_toArray, List.set_cons_zero, List.set_cons_succ]
                            refine wpAnyH_take (i := 10) (oi := { dst := some 112, op := _, type := _, pos := _, after := _, guard := _ }) (v := undef) rfl (by kernel_rfl) (by kernel_rfl) (by kernel_rfl) (fun _ _ _ h => h) (Or.inr ⟨by rfl, rfl⟩) (by assumption) ?_
                            try simp only [Act.put, List.setIfInBounds_toArray, List.set_cons_zero, List.set_cons_succ]
                            refine wpAnyH_take (i := 11) (oi := { dst := some 113, op := _, type := _, pos := _, after := _, guard := _ }) (v := undef) rfl (by kernel_rfl) (by kernel_rfl) (by kernel_rfl) (fun _ _ _ h => h) (Or.inr ⟨by rfl, rfl⟩) (by assumption) ?_
                            try simp only [Act.put, List.setIfInBounds_toArray, List.set_cons_zero, List.set_cons_succ]
                            refine wpAnyH_take (i := 12) (oi := { dst := some 114, op := _, type := _, pos := _, after := _, guard := _ }) (v := undef) rfl (by kernel_rfl) (by kernel_rfl) (by kernel_rfl) (fun _ _ _ h => h) (Or.inr ⟨by rfl, rfl⟩) (by assumption) ?_
                            try simp only [Act.put, List.setIfInBounds_toArray, List.set_cons_zero, List.set_cons_succ]
                            refine wpAnyH_take (i := 13) (oi := { dst := some 115, op := _, type := _, pos := _, after := _, guard := _ }) (v := undef) rfl (by kernel_rfl) (by kernel_rfl) (by kernel_rfl) (fun _ _ _ h => h) (Or.inr ⟨by rfl, rfl⟩) (by assumption) ?_
                            try simp only [Act.put, List.setIfInBounds_toArray, List.set_cons_zero, List.set_cons_succ]
                            refine wpAnyH_take (i := 14) (oi := { dst := some 116, op := _, type := _, pos := _, after := _, guard := _ }) (v := undef) rfl (by kernel_rfl) (by kernel_rfl) (by kernel_rfl) (fun _ _ _ h => h) (Or.inr ⟨by rfl, rfl⟩) (by assumption) ?_
                            try simp only [Act.put, List.setIfInBounds_toArray, List.set_cons_zero, List.set_cons_succ]
                            refine wpAnyH_take (i := 15) (oi := { dst := some 117, op := _, type := _, pos := _, after := _, guard := _ }) (v := undef) rfl (by kernel_rfl) (by kernel_rfl) (by kernel_rfl) (fun _ _ _ h => h) (Or.inr ⟨by rfl, rfl⟩) (by assumption) ?_
                            try simp only [Act.put, List.setIfInBounds_toArray, List.set_cons_zero, List.set_cons_succ]
                            refine wpAnyH_take (i := 16) (oi := { dst := some 118, op := _, type := _, pos := _, after := _, guard := _ }) (v := undef) rfl (by kernel_rfl) (by kernel_rfl) (by kernel_rfl) (fun _ _ _ h => h) (Or.inr ⟨by rfl, rfl⟩) (by assumption) ?_
                            try simp only [Act.put, List.setIfInBounds_toArray, List.set_cons_zero, List.set_cons_succ]
                            refine wpAnyH_take (i := 17) (oi := { dst := some 119, op := _, type := _, pos := _, after := _, guard := _ }) (v := undef) rfl (by kernel_rfl) (by kernel_rfl) (by kernel_rfl) (fun _ _ _ h => h) (Or.inr ⟨by rfl, rfl⟩) (by assumption) ?_
                            try simp only [Act.put, List.setIfInBounds_toArray, List.set_cons_zero, List.set_cons_succ]
                            refine wpAnyH_take (i := 18) (oi := { dst := some 120, op := _, type := _, pos := _, after := _, guard := _ }) (v := undef) rfl (by kernel_rfl) (by kernel_rfl) (by kernel_rfl) (fun _ _ _ h => h) (Or.inr ⟨by rfl, rfl⟩) (by assumption) ?_
                            try simp only [Act.put, List.setIfInBounds_toArray, List.set_cons_zero, List.set_cons_succ]
                            refine wpAnyH_take (i := 19) (oi := { dst := some 121, op := _, type := _, pos := _, after := _, guard := _ }) (v := undef) rfl (by kernel_rfl) (by kernel_rfl) (by kernel_rfl) (fun _ _ _ h => h) (Or.inr ⟨by rfl, rfl⟩) (by assumption) ?_
                            try simp only [Act.put, List.setIfInBounds_toArray, List.set_cons_zero, List.set_cons_succ]
                            refine wpAnyH_take (i := 20) (oi := { dst := some 122, op := _, type := _, pos := _, after := _, guard := _ }) (v := undef) rfl (by kernel_rfl) (by kernel_rfl) (by kernel_rfl) (fun _ _ _ h => h) (Or.inr ⟨by rfl, rfl⟩) (by assumption) ?_
                            try simp only [Act.put, List.setIfInBounds_toArray, List.set_cons_zero, List.set_cons_succ]
                            refine wpAnyH_take (i := 21) (oi := { dst := some 123, op := _, type := _, pos := _, after := _, guard := _ }) (v := undef) rfl (by kernel_rfl) (by kernel_rfl) (by kernel_rfl) (fun _ _ _ h => h) (Or.inr ⟨by rfl, rfl⟩) (by assumption) ?_
                            try simp only [Act.put, List.setIfInBounds_toArray, List.set_cons_zero, List.set_cons_succ]
                            refine wpAnyH_take (i := 22) (oi := { dst := some 124, op := _, type := _, pos := _, after := _, guard := _ }) (v := .bool false) rfl (by kernel_rfl) (by kernel_rfl) (by kernel_rfl) (fun _ _ _ h => h) (Or.inl ⟨by rfl, fun w' hSw => ?_⟩) (by assumption) ?_
                            · ((try dsimp only at hSw); go_simp)
                            try simp only [Act.put, List.setIfInBounds_toArray, List.set_cons_zero, List.set_cons_succ]
                            refine wpAnyH_done (by kernel_rfl) ?_ _
                            refine NoPanic.normal ?_
                            generalize hwz : wB.drew = wz at *
                            clear hwz
                            obtain ⟨ja, hja⟩ : ∃ j : Nat, i = a + j := ⟨i - a, by omega⟩
                            have lja : ja < x.new.length := by omega
                            have hsja : Strs wz wz.heap.size x.a2 (toBs x.new) := (HO5.out wz HJz.out.below).1.h.new
                            obtain ⟨gja, fja, hgja, _, cja⟩ := hsja.at_ (k := ja) (by rw [toBs_len]; exact lja)
                            have eja : (toBs x.new)[ja]'(by rw [toBs_len]; exact lja) = toB x.new[ja] := by simp [toBs]
                            rw [eja] at cja
                            have sja : (i : Int) - (a : Int) = (ja : Int) := by omega
                            have tja : (ja : Int) < (x.new.length : Int) := by omega
                            have uja : (0 : Int) ≤ (ja : Int) := by omega
                            have vja : IntKind.i64.wrap (ja : Int) = (ja : Int) := IntWalk.i64_in _ (by omega)
                            clear eja hsja
                            rw [hgja] at x5
                            clear hgja
                            have hrel2 : ∀ gb cb W, HunkJ wl W G x.p mn ((goA a x.new.length b x.old y.old i) ++ (if i = a then x.old else [])) (((goA b y.old.length a y.new x.new i) ++ (if i = b then y.new else [])) ++ [x.new[ja]]) { zB with a2 := some ⟨gb, 0, none⟩, c2 := cb, new := zB.new ++ [x.new[ja]] } → (∃ (i' : Nat) (z' : Pm), (.bool (decide (a < i + 1)) : Value) = .bool (decide (a < i')) ∧ (.bool (decide (b < i + 1)) : Value) = .bool (decide (b < i')) ∧ (.int .i64 ((i : Int) + 1) : Value) = .int .i64 (i' : Int) ∧ m0' ≤ i' ∧ i' ≤ L + 1 ∧ Hid (HunkJ wl W G x.p mn (goA a x.new.length b x.old y.old i') (goA b y.old.length a y.new x.new i') z') ∧ Hid (∀ j k (hj : j < x.new.length) (hk : k < y.old.length), a + j = b + k → a + j < i' → x.new[j] = y.old[k])) := by
                              intro gb cb W hJ
                              have HAG2 : Hid (∀ j k (hj : j < x.new.length) (hk : k < y.old.length), a + j = b + k → a + j < i + 1 → x.new[j] = y.old[k]) := by
                                intro j k hj hk h1 h2
                                by_cases h3 : a + j < i
                                · exact HAG.out j k hj hk h1 h3
                                · exact absurd (show b ≤ i ∧ i < b + y.old.length by omega) hh2
                              have HJN2 : Hid (HunkJ wl W G x.p mn (goA a x.new.length b x.old y.old (i + 1)) (goA b y.old.length a y.new x.new (i + 1)) { zB with a2 := some ⟨gb, 0, none⟩, c2 := cb, new := zB.new ++ [x.new[ja]] }) := by
                                have e1 : lineA a x.new.length b y.old i = [] := by unfold lineA; rw [dif_neg (by omega)]
                                have e2 : lineA b y.old.length a x.new i = [x.new[ja]] := by unfold lineA; rw [dif_pos (by omega)]; simp only [show i - a = ja by omega]
                                show HunkJ _ _ _ _ _ _ _ _
                                rw [goA_next, goA_next, e1, e2]
                                rw [List.append_nil]
                                skip
                                exact hJ
                              have HREL : Hid (∃ (i' : Nat) (z' : Pm), (.bool (decide (a < i + 1)) : Value) = .bool (decide (a < i')) ∧ (.bool (decide (b < i + 1)) : Value) = .bool (decide (b < i')) ∧ (.int .i64 ((i : Int) + 1) : Value) = .int .i64 (i' : Int) ∧ m0' ≤ i' ∧ i' ≤ L + 1 ∧ Hid (HunkJ wl W G x.p mn (goA a x.new.length b x.old y.old i') (goA b y.old.length a y.new x.new i') z') ∧ Hid (∀ j k (hj : j < x.new.length) (hk : k < y.old.length), a + j = b + k → a + j < i' → x.new[j] = y.old[k])) :=
                                ⟨i + 1, { zB with a2 := some ⟨gb, 0, none⟩, c2 := cb, new := zB.new ++ [x.new[ja]] }, rfl, rfl, by rw [Int.natCast_add]; rfl, by omega, by omega, HJN2.out, HAG2.out⟩
                              exact HREL.out
                            clear hja HJB
                            obtain ⟨str, hstr⟩ : ∃ s, toB x.new[ja] = s := ⟨_, rfl⟩
                            rw [hstr] at cja
                            have HSTR := Lib.hid hstr
                            clear hstr
                            obtain ⟨i0, hi0, hz0, hz1, hz2⟩ := info_parts info_str
                            have hb1 : ∀ q, Below wz.heap.size wz ((wz.drewN q).alloc (.cells #[.string str] 9)) := fun q => (below_drewN (Below.refl _ _) q).alloc (Nat.le_refl _) _
                            have hb2 : Below wz.heap.size wz (wz.alloc (.cells #[.string str] 9)).drew := ((Below.refl _ _).alloc (Nat.le_refl _) _).drew
                            have HOWN := Lib.hid (fun W (hb : Below wz.heap.size wz W) => (HJz.out.on hb).fz.o2)
                            have HNEWS1 := Lib.hid (fun q : Nat => World.news_of_block (heap_alloc_new (wz.drewN q) (.cells #[.string str] 9)))
                            have HNEWS2 : Hid (∀ j u, (#[.string str] : Array Value).toList[j]? = some u → (wz.alloc (.cells #[.string str] 9)).drew.cell? ((⟨wz.heap.size, 0, none⟩ : Addr).add j) = some u) := World.news_of_block (w := (wz.alloc (.cells #[.string str] 9)).drew) (heap_alloc_new wz (.cells #[.string str] 9))
                            have HK : Hid (∀ W, Below wz.heap.size wz W → ∀ gb cb w2, w2.ownsRow (G + 1) 9 1 (.slice (some ⟨gb, 0, none⟩) (zB.new.length + 1) cb) (zB.new.length + 1) (zB.new.map encStr ++ [.string str]) → W.grownBy w2 zB.v2.ownBlock → (zB.v2.ownBlock = some gb ∨ gb = W.heap.size) →
                                HunkJ wl (w2.setCell ⟨G, 5, none⟩ (.slice (some ⟨gb, 0, none⟩) (zB.new.length + 1) cb)) G x.p mn ((goA a x.new.length b x.old y.old i) ++ (if i = a then x.old else [])) (((goA b y.old.length a y.new x.new i) ++ (if i = b then y.new else [])) ++ [x.new[ja]]) { zB with a2 := some ⟨gb, 0, none⟩, c2 := cb, new := zB.new ++ [x.new[ja]] } ∧ w2.frozen? ⟨G, 5, none⟩ = false ∧ w2.cell? ⟨G, 5, none⟩ = some (.slice zB.a2 zB.new.length zB.c2)) := by
                              intro W hW gb cb w2 ho hg hat
                              have ho' : OwnS w2 (G + 1) (.slice (some ⟨gb, 0, none⟩) (zB.new.length + 1) cb) (zB.new ++ [x.new[ja]]) := by
                                unfold OwnS
                                rw [List.length_append, List.map_append]
                                rw [← HSTR.out] at ho
                                exact ho
                              have hJ := HJz.out.on hW
                              refine ⟨hJ.comes (tt := [x.new[ja]]) rfl ho' hg ?_, (hJ.grown2 hg).fz 5, (hJ.grown2 hg).c5⟩
                              rcases hat with h | rfl
                              · exact .inl h.symm
                              · exact .inr rfl
                            have hcap : zB.new.length + 1 ≤ 20000 := by
                              have h1 := HJz.out.new
                              have h2 := goA_len b y.old.length a y.new x.new i
                              rw [h1, List.length_append]
                              split <;> (try simp only [List.length_nil]) <;> omega
                            have gc := HJz.out.fz.at_.c5
                            have fA : ∀ q : Nat, ((wz.drewN q).alloc (.cells #[.string str] 9)).cell? ⟨G, 5, none⟩ = some (.slice zB.a2 zB.new.length zB.c2) := fun q => (HJz.out.on (hb1 q)).fz.at_.c5
                            have fB : (wz.alloc (.cells #[.string str] 9)).drew.cell? ⟨G, 5, none⟩ = some (.slice zB.a2 zB.new.length zB.c2) := (HJz.out.on hb2).fz.at_.c5
                            have hGz : G + 1 ≤ wz.heap.size := by have := HJz.out.fz.at_.lt; omega
                            have HB1 := Lib.hid hb1
                            have HB2 := Lib.hid hb2
                            have HREL := Lib.hid hrel2
                            clear hb1 hb2 hrel2
                            go_wp2_with fail
                            go_region_law (refine step_append_lies _ rfl (.tmp 150) (.tmp 159) _ rfl (G + 1) _ i0 (.string ByteArray.empty) 1 16 Tryz.underlying36 hi0 hz0 hz1 hz2 rfl (by decide) (.slice zB.a2 zB.new.length zB.c2) zB.new.length (zB.new.map encStr) (by simp [Act.eval]) (HOWN.out _ (by first | exact HB1.out _ | exact HB2.out)) ⟨wz.heap.size, 0, none⟩ 1 1 [.string str] (by simp [Act.eval]) rfl (by first | exact HNEWS1.out _ | exact HNEWS2.out) (by intro u hu; simp at hu; subst hu; rfl) (by decide) (by unfold maxLen; omega) (by omega) (by simp; omega) _ rfl ?_; intro gb cb w2 hob hgb hatb _; obtain ⟨hres, hfr, hce⟩ := HK.out _ (by first | exact HB1.out _ | exact HB2.out) gb cb w2 hob hgb hatb; have HRES := Lib.hid (HREL.out gb cb _ hres); clear hob hgb hatb hres)
                            all_goals
                              go_wp2
                              go_roundw
                              case rel =>
                                first
                                | exact HRES.out
                                | ((repeat apply Exists.intro); exact ⟨HRES.out, rfl⟩)
                              case measure => simp [intOf]; omega
                        · as_aux_lemma =>
                            have hm2 := of_decide_eq_true hm.symm
                            have hh2 := of_decide_eq_true hh.symm
                            clear hm hh Hmb Hhb
                            obtain ⟨ja, hja⟩ : ∃ j : Nat, i = a + j := ⟨i - a, by omega⟩
                            have lja : ja < x.new.length := by omega
                            have hsja : Strs wB wB.heap.size x.a2 (toBs x.new) := (HO5.out wB HJB.out.below).1.h.new
                            obtain ⟨gja, fja, hgja, _, cja⟩ := hsja.at_ (k := ja) (by rw [toBs_len]; exact lja)
                            have eja : (toBs x.new)[ja]'(by rw [toBs_len]; exact lja) = toB x.new[ja] := by simp [toBs]
                            rw [eja] at cja
                            have sja : (i : Int) - (a : Int) = (ja : Int) := by omega
                            have tja : (ja : Int) < (x.new.length : Int) := by omega
                            have uja : (0 : Int) ≤ (ja : Int) := by omega
                            have vja : IntKind.i64.wrap (ja : Int) = (ja : Int) := IntWalk.i64_in _ (by omega)
                            clear eja hsja
                            obtain ⟨jb, hjb⟩ : ∃ j : Nat, i = b + j := ⟨i - b, by omega⟩
                            have ljb : jb < y.old.length := by omega
                            have hsjb : Strs wB wB.heap.size y.a1 (toBs y.old) := (HO5.out wB HJB.out.below).2.h.old
                            obtain ⟨gjb, fjb, hgjb, _, cjb⟩ := hsjb.at_ (k := jb) (by rw [toBs_len]; exact ljb)
                            have ejb : (toBs y.old)[jb]'(by rw [toBs_len]; exact ljb) = toB y.old[jb] := by simp [toBs]
                            rw [ejb] at cjb
                            have sjb : (i : Int) - (b : Int) = (jb : Int) := by omega
                            have tjb : (jb : Int) < (y.old.length : Int) := by omega
                            have ujb : (0 : Int) ≤ (jb : Int) := by omega
                            have vjb : IntKind.i64.wrap (jb : Int) = (jb : Int) := IntWalk.i64_in _ (by omega)
                            clear ejb hsjb
                            rw [hgja] at x5
                            rw [hgjb] at y4
                            clear hgja hgjb
                            have qja : IntKind.i64.wrap ((i : Int) - (a : Int)) = (ja : Int) := by rw [sja]; exact vja
                            have qjb : IntKind.i64.wrap ((i : Int) - (b : Int)) = (jb : Int) := by rw [sjb]; exact vjb
                            obtain ⟨sx, hsx⟩ : ∃ s, toB x.new[ja] = s := ⟨_, rfl⟩
                            obtain ⟨sy, hsy⟩ : ∃ s, toB y.old[jb] = s := ⟨_, rfl⟩
                            rw [hsx] at cja
                            rw [hsy] at cjb
                            by_cases heq : x.new[ja] = y.old[jb]
                            · have w1 : (sx.toList == sy.toList) = true := by rw [← hsx, ← hsy, heq]; simp
                              have hag : Hid (x.new[ja] = y.old[jb]) := heq
                              clear hm2 hh2 heq hsx hsy
                              have HAG2 : Hid (∀ j k (hj : j < x.new.length) (hk : k < y.old.length), a + j = b + k → a + j < i + 1 → x.new[j] = y.old[k]) := by
                                intro j k hj hk h1 h2
                                by_cases h3 : a + j < i
                                · exact HAG.out j k hj hk h1 h3
                                · have e1 : j = ja := by omega
                                  have e2 : k = jb := by omega
                                  subst e1
                                  subst e2
                                  exact hag.out
                              have HJN2 : Hid (HunkJ wl wB.drew G x.p mn (goA a x.new.length b x.old y.old (i + 1)) (goA b y.old.length a y.new x.new (i + 1)) zB) := by
                                have e1 : lineA a x.new.length b y.old i = [] := by unfold lineA; rw [dif_neg (by omega)]
                                have e2 : lineA b y.old.length a x.new i = [] := by unfold lineA; rw [dif_neg (by omega)]
                                show HunkJ _ _ _ _ _ _ _ _
                                rw [goA_next, goA_next, e1, e2]
                                rw [List.append_nil]
                                rw [List.append_nil]
                                exact HJB.out.on (Below.refl wB.heap.size wB).drew
                              have HREL : Hid (∃ (i' : Nat) (z' : Pm), (.bool (decide (a < i + 1)) : Value) = .bool (decide (a < i')) ∧ (.bool (decide (b < i + 1)) : Value) = .bool (decide (b < i')) ∧ (.int .i64 ((i : Int) + 1) : Value) = .int .i64 (i' : Int) ∧ m0' ≤ i' ∧ i' ≤ L + 1 ∧ Hid (HunkJ wl wB.drew G x.p mn (goA a x.new.length b x.old y.old i') (goA b y.old.length a y.new x.new i') z') ∧ Hid (∀ j k (hj : j < x.new.length) (hk : k < y.old.length), a + j = b + k → a + j < i' → x.new[j] = y.old[k])) :=
                                ⟨i + 1, zB, rfl, rfl, by rw [Int.natCast_add]; rfl, by omega, by omega, HJN2.out, HAG2.out⟩
                              clear hja hjb sja sjb vja vjb lja ljb HJB HAG hag HAG2 HJN2
                              go_wp2_with fail
                              refine wp_region_noPanic ?_
                              refine wp_region_held_drew (S := (fun w' => w'.cell? ⟨w.heap.size, 3, none⟩ = some (.int .i64 (a : Int)) ∧ w'.cell? ⟨w.heap.size, 5, none⟩ = some (.slice (some ⟨gja, fja, none⟩) x.new.length x.c2) ∧ w'.cell? ⟨w.heap.size + 1, 3, none⟩ = some (.int .i64 (b : Int)) ∧ w'.cell? ⟨w.heap.size + 1, 4, none⟩ = some (.slice (some ⟨gjb, fjb, none⟩) y.old.length y.c1) ∧ w'.cell? ⟨gja, fja + ja, none⟩ = some (.string sx) ∧ w'.cell? ⟨gjb, fjb + jb, none⟩ = some (.string sy))) (by kernel_rfl) ⟨x3, x5, y3, y4, cja, cjb⟩ (fun hHeld => ?_)
                              refine wpAnyH_take (i := 0) (oi := { dst := some 102, op := _, type := _, pos := _, after := _, guard := _ }) (v := .bool true) rfl (by kernel_rfl) (by kernel_rfl) (by kernel_rfl) (fun _ _ _ h => h) (Or.inl ⟨by rfl, fun w' hSw => ?_⟩) (by assumption) ?_
                              · ((try dsimp only at hSw); go_simp)
                              try simp only [Act.put, List.setIfInBounds_toArray, List.set_cons_zero, List.set_cons_succ]
                              refine wpAnyH_take (i := 1) (oi := { dst := some 103, op := _, type := _, pos := _, after := _, guard := _ }) (v := .bool true) rfl (by kernel_rfl) (by kernel_rfl) (by kernel_rfl) (fun _ _ _ h => h) (Or.inl ⟨by rfl, fun w' hSw => ?_⟩) (by assumption) ?_
                              · ((try dsimp only at hSw); go_simp)
                              try simp only [Act.put, List.setIfInBounds_toArray, List.set_cons_zero, List.set_cons_succ]
                              refine wpAnyH_take (i := 2) (oi := { dst := some 104, op := _, type := _, pos := _, after := _, guard := _ }) (v := .bool true) rfl (by kernel_rfl) (by kernel_rfl) (by kernel_rfl) (fun _ _ _ h => h) (Or.inl ⟨by rfl, fun w' hSw => ?_⟩) (by assumption) ?_
                              · ((try dsimp only at hSw); go_simp)
                              try simp only [Act.put, List.setIfInBounds_toArray, List.set_cons_zero, List.set_cons_succ]
                              refine wpAnyH_take (i := 3) (oi := { dst := some 105, op := _, type := _, pos := _, after := _, guard := _ }) (v := .bool true) rfl (by kernel_rfl) (by kernel_rfl) (by kernel_rfl) (fun _ _ _ h => h) (Or.inl ⟨by rfl, fun w' hSw => ?_⟩) (by assumption) ?_
                              · ((try dsimp only at hSw); go_simp)
                              try simp only [Act.put, List.setIfInBounds_toArray, List.set_cons_zero, List.set_cons_succ]
                              refine wpAnyH_take (i := 4) (oi := { dst := some 106, op := _, type := _, pos := _, after := _, guard := _ }) (v := .bool true) rfl (by kernel_rfl) (by kernel_rfl) (by kernel_rfl) (fun _ _ _ h => h) (Or.inl ⟨by rfl, fun w' hSw => ?_⟩) (by assumption) ?_
                              · ((try dsimp only at hSw); go_simp)
                              try simp only [Act.put, List.setIfInBounds_toArray, List.set_cons_zero, List.set_cons_succ]
                              refine wpAnyH_take (i := 5) (oi := { dst := some 107, op := _, type := _, pos := _, after := _, guard := _ }) (v := .pointer (some ⟨w.heap.size, 5, none⟩)) rfl (by kernel_rfl) (by kernel_rfl) (by kernel_rfl) (fun _ _ _ h => h) (Or.inl ⟨by rfl, fun w' hSw => ?_⟩) (by assumption) ?_
                              · ((try dsimp only at hSw); go_simp)
                              try simp only [Act.put, List.setIfInBounds_toArray, List.set_cons_zero, List.set_cons_succ]
                              refine wpAnyH_take (i := 6) (oi := { dst := some 108, op := _, type := _, pos := _, after := _, guard := _ }) (v := .slice (some ⟨gja, fja, none⟩) x.new.length x.c2) rfl (by kernel_rfl) (by kernel_rfl) (by kernel_rfl) (fun _ _ _ h => h) (Or.inl ⟨by rfl, fun w' hSw => ?_⟩) (by assumption) ?_
                              · ((try dsimp only at hSw); go_simp)
                              try simp only [Act.put, List.setIfInBounds_toArray, List.set_cons_zero, List.set_cons_succ]
                              refine wpAnyH_take (i := 7) (oi := { dst := some 109, op := _, type := _, pos := _, after := _, guard := _ }) (v := .int .i64 (i : Int)) rfl (by kernel_rfl) (by kernel_rfl) (by kernel_rfl) (fun _ _ _ h => h) (Or.inl ⟨by rfl, fun w' hSw => ?_⟩) (by assumption) ?_
                              · ((try dsimp only at hSw); go_simp)
                              try simp only [Act.put, List.setIfInBounds_toArray, List.set_cons_zero, List.set_cons_succ]
                              refine wpAnyH_take (i := 8) (oi := { dst := some 110, op := _, type := _, pos := _, after := _, guard := _ }) (v := .pointer (some ⟨w.heap.size, 3, none⟩)) rfl (by kernel_rfl) (by kernel_rfl) (by kernel_rfl) (fun _ _ _ h => h) (Or.inl ⟨by rfl, fun w' hSw => ?_⟩) (by assumption) ?_
                              · ((try dsimp only at hSw); go_simp)
                              try simp only [Act.put, List.setIfInBounds_toArray, List.set_cons_zero, List.set_cons_succ]
                              refine wpAnyH_take (i := 9) (oi := { dst := some 111, op := _, type := _, pos := _, after := _, guard := _ }) (v := .int .i64 (a : Int)) rfl (by kernel_rfl) (by kernel_rfl) (by kernel_rfl) (fun _ _ _ h => h) (Or.inl ⟨by rfl, fun w' hSw => ?_⟩) (by assumption) ?_
                              · ((try dsimp only at hSw); go_simp)
                              try simp only [Act.put, List.setIfInBounds_toArray, List.set_cons_zero, List.set_cons_succ]
                              refine wpAnyH_take (i := 10) (oi := { dst := some 112, op := _, type := _, pos := _, after := _, guard := _ }) (v := .int .i64 (ja : Int)) rfl (by kernel_rfl) (by kernel_rfl) (by kernel_rfl) (fun _ _ _ h => h) (Or.inl ⟨by rfl, fun w' hSw => ?_⟩) (by assumption) ?_
                              · ((try dsimp only at hSw); go_simp)
                              try simp only [Act.put, List.setIfInBounds_toArray, List.set_cons_zero, List.set_cons_succ]
                              refine wpAnyH_take (i := 11) (oi := { dst := some 113, op := _, type := _, pos := _, after := _, guard := _ }) (v := .pointer (some ⟨gja, fja + ja, none⟩)) rfl (by kernel_rfl) (by kernel_rfl) (by kernel_rfl) (fun _ _ _ h => h) (Or.inl ⟨by rfl, fun w' hSw => ?_⟩) (by assumption) ?_
                              · ((try dsimp only at hSw); go_simp)
                              try simp only [Act.put, List.setIfInBounds_toArray, List.set_cons_zero, List.set_cons_succ]
                              refine wpAnyH_take (i := 12) (oi := { dst := some 114, op := _, type := _, pos := _, after := _, guard := _ }) (v := .string sx) rfl (by kernel_rfl) (by kernel_rfl) (by kernel_rfl) (fun _ _ _ h => h) (Or.inl ⟨by rfl, fun w' hSw => ?_⟩) (by assumption) ?_
                              · ((try dsimp only at hSw); go_simp)
                              try simp only [Act.put, List.setIfInBounds_toArray, List.set_cons_zero, List.set_cons_succ]
                              refine wpAnyH_take (i := 13) (oi := { dst := some 115, op := _, type := _, pos := _, after := _, guard := _ }) (v := .pointer (some ⟨w.heap.size + 1, 4, none⟩)) rfl (by kernel_rfl) (by kernel_rfl) (by kernel_rfl) (fun _ _ _ h => h) (Or.inl ⟨by rfl, fun w' hSw => ?_⟩) (by assumption) ?_
                              · ((try dsimp only at hSw); go_simp)
                              try simp only [Act.put, List.setIfInBounds_toArray, List.set_cons_zero, List.set_cons_succ]
                              refine wpAnyH_take (i := 14) (oi := { dst := some 116, op := _, type := _, pos := _, after := _, guard := _ }) (v := .slice (some ⟨gjb, fjb, none⟩) y.old.length y.c1) rfl (by kernel_rfl) (by kernel_rfl) (by kernel_rfl) (fun _ _ _ h => h) (Or.inl ⟨by rfl, fun w' hSw => ?_⟩) (by assumption) ?_
                              · ((try dsimp only at hSw); go_simp)
                              try simp only [Act.put, List.setIfInBounds_toArray, List.set_cons_zero, List.set_cons_succ]
                              refine wpAnyH_take (i := 15) (oi := { dst := some 117, op := _, type := _, pos := _, after := _, guard := _ }) (v := .int .i64 (i : Int)) rfl (by kernel_rfl) (by kernel_rfl) (by kernel_rfl) (fun _ _ _ h => h) (Or.inl ⟨by rfl, fun w' hSw => ?_⟩) (by assumption) ?_
                              · ((try dsimp only at hSw); go_simp)
                              try simp only [Act.put, List.setIfInBounds_toArray, List.set_cons_zero, List.set_cons_succ]
                              refine wpAnyH_take (i := 16) (oi := { dst := some 118, op := _, type := _, pos := _, after := _, guard := _ }) (v := .pointer (some ⟨w.heap.size + 1, 3, none⟩)) rfl (by kernel_rfl) (by kernel_rfl) (by kernel_rfl) (fun _ _ _ h => h) (Or.inl ⟨by rfl, fun w' hSw => ?_⟩) (by assumption) ?_
                              · ((try dsimp only at hSw); go_simp)
                              try simp only [Act.put, List.setIfInBounds_toArray, List.set_cons_zero, List.set_cons_succ]
                              refine wpAnyH_take (i := 17) (oi := { dst := some 119, op := _, type := _, pos := _, after := _, guard := _ }) (v := .int .i64 (b : Int)) rfl (by kernel_rfl) (by kernel_rfl) (by kernel_rfl) (fun _ _ _ h => h) (Or.inl ⟨by rfl, fun w' hSw => ?_⟩) (by assumption) ?_
                              · ((try dsimp only at hSw); go_simp)
                              try simp only [Act.put, List.setIfInBounds_toArray, List.set_cons_zero, List.set_cons_succ]
                              refine wpAnyH_take (i := 18) (oi := { dst := some 120, op := _, type := _, pos := _, after := _, guard := _ }) (v := .int .i64 (jb : Int)) rfl (by kernel_rfl) (by kernel_rfl) (by kernel_rfl) (fun _ _ _ h => h) (Or.inl ⟨by rfl, fun w' hSw => ?_⟩) (by assumption) ?_
                              · ((try dsimp only at hSw); go_simp)
                              try simp only [Act.put, List.setIfInBounds_toArray, List.set_cons_zero, List.set_cons_succ]
                              refine wpAnyH_take (i := 19) (oi := { dst := some 121, op := _, type := _, pos := _, after := _, guard := _ }) (v := .pointer (some ⟨gjb, fjb + jb, none⟩)) rfl (by kernel_rfl) (by kernel_rfl) (by kernel_rfl) (fun _ _ _ h => h) (Or.inl ⟨by rfl, fun w' hSw => ?_⟩) (by assumption) ?_
                              · ((try dsimp only at hSw); go_simp)
                              try simp only [Act.put, List.setIfInBounds_toArray, List.set_cons_zero, List.set_cons_succ]
                              refine wpAnyH_take (i := 20) (oi := { dst := some 122, op := _, type := _, pos := _, after := _, guard := _ }) (v := .string sy) rfl (by kernel_rfl) (by kernel_rfl) (by kernel_rfl) (fun _ _ _ h => h) (Or.inl ⟨by rfl, fun w' hSw => ?_⟩) (by assumption) ?_
                              · ((try dsimp only at hSw); go_simp)
                              try simp only [Act.put, List.setIfInBounds_toArray, List.set_cons_zero, List.set_cons_succ]
                              refine wpAnyH_take (i := 21) (oi := { dst := some 123, op := _, type := _, pos := _, after := _, guard := _ }) (v := .bool false) rfl (by kernel_rfl) (by kernel_rfl) (by kernel_rfl) (fun _ _ _ h => h) (Or.inl ⟨by rfl, fun w' hSw => ?_⟩) (by assumption) ?_
                              · ((try dsimp only at hSw); go_simp)
                              try simp only [Act.put, List.setIfInBounds_toArray, List.set_cons_zero, List.set_cons_succ]
                              refine wpAnyH_take (i := 22) (oi := { dst := some 124, op := _, type := _, pos := _, after := _, guard := _ }) (v := .bool false) rfl (by kernel_rfl) (by kernel_rfl) (by kernel_rfl) (fun _ _ _ h => h) (Or.inl ⟨by rfl, fun w' hSw => ?_⟩) (by assumption) ?_
                              · ((try dsimp only at hSw); go_simp)
                              try simp only [Act.put, List.setIfInBounds_toArray, List.set_cons_zero, List.set_cons_succ]
                              refine wpAnyH_done (by kernel_rfl) ?_ _
                              refine NoPanic.normal ?_
                              clear qja qjb tja tjb uja ujb cja cjb w1
                              go_wp2
                              go_roundw
                              case rel =>
                                exact HREL.out
                              case measure => simp [intOf]; omega
                            · have w1 : (sx.toList == sy.toList) = false := by
                                rw [beq_eq_false_iff_ne, ← hsx, ← hsy, toList_eq, toList_eq, of_toB, of_toB]
                                exact heq
                              have hno : hunksP x.key y.key = none := by
                                refine hunks_apart (agree_no (p := x.key) (q := y.key) (i := ja) (j := jb) lja ljb ?_ heq)
                                show x.at_ + (ja : Int) = y.at_ + (jb : Int)
                                rw [HAB.out.1, HAB.out.2]
                                omega
                              have HNO := Lib.hid hno
                              have hwn : Below G wl wB.drew := HJB.out.below.trans ((Below.refl wB.heap.size wB).drew.mono (Nat.le_of_lt HJB.out.fz.at_.lt))
                              have hgz := HG.out.under hwn (by omega)
                              have HT := Lib.hid (hunk_set (w := w) (o := none) (HA.out.trans (hwn.mono (by omega))) (show w.heap.size ≤ w.heap.size + 1 + 1 by omega) hgz (sep_zero _) (rfl : _ = zeroP) false rfl)
                              have HT1 := Lib.hid HT.out.1
                              have HT2 := Lib.hid HT.out.2
                              have g0 := hgz.c0
                              have gf0 := hgz.fz 0
                              have g1 := hgz.c1
                              have gf1 := hgz.fz 1
                              have g2 := hgz.c2
                              have gf2 := hgz.fz 2
                              have g3 := hgz.c3
                              have gf3 := hgz.fz 3
                              have g4 := hgz.c4
                              have gf4 := hgz.fz 4
                              have g5 := hgz.c5
                              have gf5 := hgz.fz 5
                              clear hm2 hh2 hno heq hsx hsy HT hwn hgz hja hjb sja sjb vja vjb lja ljb HJB HAG hiL hi0 hi1 ik hLk hlt hgs
                              go_wp2_with fail
                              refine wp_region_noPanic ?_
                              refine wp_region_held_drew (S := (fun w' => w'.cell? ⟨w.heap.size, 3, none⟩ = some (.int .i64 (a : Int)) ∧ w'.cell? ⟨w.heap.size, 5, none⟩ = some (.slice (some ⟨gja, fja, none⟩) x.new.length x.c2) ∧ w'.cell? ⟨w.heap.size + 1, 3, none⟩ = some (.int .i64 (b : Int)) ∧ w'.cell? ⟨w.heap.size + 1, 4, none⟩ = some (.slice (some ⟨gjb, fjb, none⟩) y.old.length y.c1) ∧ w'.cell? ⟨gja, fja + ja, none⟩ = some (.string sx) ∧ w'.cell? ⟨gjb, fjb + jb, none⟩ = some (.string sy))) (by kernel_rfl) ⟨x3, x5, y3, y4, cja, cjb⟩ (fun hHeld => ?_)
                              refine wpAnyH_take (i := 0) (oi := { dst := some 102, op := _, type := _, pos := _, after := _, guard := _ }) (v := .bool true) rfl (by kernel_rfl) (by kernel_rfl) (by kernel_rfl) (fun _ _ _ h => h) (Or.inl ⟨by rfl, fun w' hSw => ?_⟩) (by assumption) ?_
                              · ((try dsimp only at hSw); go_simp)
                              try simp only [Act.put, List.setIfInBounds_toArray, List.set_cons_zero, List.set_cons_succ]
                              refine wpAnyH_take (i := 1) (oi := { dst := some 103, op := _, type := _, pos := _, after := _, guard := _ }) (v := .bool true) rfl (by kernel_rfl) (by kernel_rfl) (by kernel_rfl) (fun _ _ _ h => h) (Or.inl ⟨by rfl, fun w' hSw => ?_⟩) (by assumption) ?_
                              · ((try dsimp only at hSw); go_simp)
                              try simp only [Act.put, List.setIfInBounds_toArray, List.set_cons_zero, List.set_cons_succ]
                              refine wpAnyH_take (i := 2) (oi := { dst := some 104, op := _, type := _, pos := _, after := _, guard := _ }) (v := .bool true) rfl (by kernel_rfl) (by kernel_rfl) (by kernel_rfl) (fun _ _ _ h => h) (Or.inl ⟨by rfl, fun w' hSw => ?_⟩) (by assumption) ?_
                              · ((try dsimp only at hSw); go_simp)
                              try simp only [Act.put, List.setIfInBounds_toArray, List.set_cons_zero, List.set_cons_succ]
                              refine wpAnyH_take (i := 3) (oi := { dst := some 105, op := _, type := _, pos := _, after := _, guard := _ }) (v := .bool true) rfl (by kernel_rfl) (by kernel_rfl) (by kernel_rfl) (fun _ _ _ h => h) (Or.inl ⟨by rfl, fun w' hSw => ?_⟩) (by assumption) ?_
                              · ((try dsimp only at hSw); go_simp)
                              try simp only [Act.put, List.setIfInBounds_toArray, List.set_cons_zero, List.set_cons_succ]
                              refine wpAnyH_take (i := 4) (oi := { dst := some 106, op := _, type := _, pos := _, after := _, guard := _ }) (v := .bool true) rfl (by kernel_rfl) (by kernel_rfl) (by kernel_rfl) (fun _ _ _ h => h) (Or.inl ⟨by rfl, fun w' hSw => ?_⟩) (by assumption) ?_
                              · ((try dsimp only at hSw); go_simp)
                              try simp only [Act.put, List.setIfInBounds_toArray, List.set_cons_zero, List.set_cons_succ]
                              refine wpAnyH_take (i := 5) (oi := { dst := some 107, op := _, type := _, pos := _, after := _, guard := _ }) (v := .pointer (some ⟨w.heap.size, 5, none⟩)) rfl (by kernel_rfl) (by kernel_rfl) (by kernel_rfl) (fun _ _ _ h => h) (Or.inl ⟨by rfl, fun w' hSw => ?_⟩) (by assumption) ?_
                              · ((try dsimp only at hSw); go_simp)
                              try simp only [Act.put, List.setIfInBounds_toArray, List.set_cons_zero, List.set_cons_succ]
                              refine wpAnyH_take (i := 6) (oi := { dst := some 108, op := _, type := _, pos := _, after := _, guard := _ }) (v := .slice (some ⟨gja, fja, none⟩) x.new.length x.c2) rfl (by kernel_rfl) (by kernel_rfl) (by kernel_rfl) (fun _ _ _ h => h) (Or.inl ⟨by rfl, fun w' hSw => ?_⟩) (by assumption) ?_
                              · ((try dsimp only at hSw); go_simp)
                              try simp only [Act.put, List.setIfInBounds_toArray, List.set_cons_zero, List.set_cons_succ]
                              refine wpAnyH_take (i := 7) (oi := { dst := some 109, op := _, type := _, pos := _, after := _, guard := _ }) (v := .int .i64 (i : Int)) rfl (by kernel_rfl) (by kernel_rfl) (by kernel_rfl) (fun _ _ _ h => h) (Or.inl ⟨by rfl, fun w' hSw => ?_⟩) (by assumption) ?_
                              · ((try dsimp only at hSw); go_simp)
                              try simp only [Act.put, List.setIfInBounds_toArray, List.set_cons_zero, List.set_cons_succ]
                              refine wpAnyH_take (i := 8) (oi := { dst := some 110, op := _, type := _, pos := _, after := _, guard := _ }) (v := .pointer (some ⟨w.heap.size, 3, none⟩)) rfl (by kernel_rfl) (by kernel_rfl) (by kernel_rfl) (fun _ _ _ h => h) (Or.inl ⟨by rfl, fun w' hSw => ?_⟩) (by assumption) ?_
                              · ((try dsimp only at hSw); go_simp)
                              try simp only [Act.put, List.setIfInBounds_toArray, List.set_cons_zero, List.set_cons_succ]
                              refine wpAnyH_take (i := 9) (oi := { dst := some 111, op := _, type := _, pos := _, after := _, guard := _ }) (v := .int .i64 (a : Int)) rfl (by kernel_rfl) (by kernel_rfl) (by kernel_rfl) (fun _ _ _ h => h) (Or.inl ⟨by rfl, fun w' hSw => ?_⟩) (by assumption) ?_
                              · ((try dsimp only at hSw); go_simp)
                              try simp only [Act.put, List.setIfInBounds_toArray, List.set_cons_zero, List.set_cons_succ]
                              refine wpAnyH_take (i := 10) (oi := { dst := some 112, op := _, type := _, pos := _, after := _, guard := _ }) (v := .int .i64 (ja : Int)) rfl (by kernel_rfl) (by kernel_rfl) (by kernel_rfl) (fun _ _ _ h => h) (Or.inl ⟨by rfl, fun w' hSw => ?_⟩) (by assumption) ?_
                              · ((try dsimp only at hSw); go_simp)
                              try simp only [Act.put, List.setIfInBounds_toArray, List.set_cons_zero, List.set_cons_succ]
                              refine wpAnyH_take (i := 11) (oi := { dst := some 113, op := _, type := _, pos := _, after := _, guard := _ }) (v := .pointer (some ⟨gja, fja + ja, none⟩)) rfl (by kernel_rfl) (by kernel_rfl) (by kernel_rfl) (fun _ _ _ h => h) (Or.inl ⟨by rfl, fun w' hSw => ?_⟩) (by assumption) ?_
                              · ((try dsimp only at hSw); go_simp)
                              try simp only [Act.put, List.setIfInBounds_toArray, List.set_cons_zero, List.set_cons_succ]
                              refine wpAnyH_take (i := 12) (oi := { dst := some 114, op := _, type := _, pos := _, after := _, guard := _ }) (v := .string sx) rfl (by kernel_rfl) (by kernel_rfl) (by kernel_rfl) (fun _ _ _ h => h) (Or.inl ⟨by rfl, fun w' hSw => ?_⟩) (by assumption) ?_
                              · ((try dsimp only at hSw); go_simp)
                              try simp only [Act.put, List.setIfInBounds_toArray, List.set_cons_zero, List.set_cons_succ]
                              refine wpAnyH_take (i := 13) (oi := { dst := some 115, op := _, type := _, pos := _, after := _, guard := _ }) (v := .pointer (some ⟨w.heap.size + 1, 4, none⟩)) rfl (by kernel_rfl) (by kernel_rfl) (by kernel_rfl) (fun _ _ _ h => h) (Or.inl ⟨by rfl, fun w' hSw => ?_⟩) (by assumption) ?_
                              · ((try dsimp only at hSw); go_simp)
                              try simp only [Act.put, List.setIfInBounds_toArray, List.set_cons_zero, List.set_cons_succ]
                              refine wpAnyH_take (i := 14) (oi := { dst := some 116, op := _, type := _, pos := _, after := _, guard := _ }) (v := .slice (some ⟨gjb, fjb, none⟩) y.old.length y.c1) rfl (by kernel_rfl) (by kernel_rfl) (by kernel_rfl) (fun _ _ _ h => h) (Or.inl ⟨by rfl, fun w' hSw => ?_⟩) (by assumption) ?_
                              · ((try dsimp only at hSw); go_simp)
                              try simp only [Act.put, List.setIfInBounds_toArray, List.set_cons_zero, List.set_cons_succ]
                              refine wpAnyH_take (i := 15) (oi := { dst := some 117, op := _, type := _, pos := _, after := _, guard := _ }) (v := .int .i64 (i : Int)) rfl (by kernel_rfl) (by kernel_rfl) (by kernel_rfl) (fun _ _ _ h => h) (Or.inl ⟨by rfl, fun w' hSw => ?_⟩) (by assumption) ?_
                              · ((try dsimp only at hSw); go_simp)
                              try simp only [Act.put, List.setIfInBounds_toArray, List.set_cons_zero, List.set_cons_succ]
                              refine wpAnyH_take (i := 16) (oi := { dst := some 118, op := _, type := _, pos := _, after := _, guard := _ }) (v := .pointer (some ⟨w.heap.size + 1, 3, none⟩)) rfl (by kernel_rfl) (by kernel_rfl) (by kernel_rfl) (fun _ _ _ h => h) (Or.inl ⟨by rfl, fun w' hSw => ?_⟩) (by assumption) ?_
                              · ((try dsimp only at hSw); go_simp)
                              try simp only [Act.put, List.setIfInBounds_toArray, List.set_cons_zero, List.set_cons_succ]
                              refine wpAnyH_take (i := 17) (oi := { dst := some 119, op := _, type := _, pos := _, after := _, guard := _ }) (v := .int .i64 (b : Int)) rfl (by kernel_rfl) (by kernel_rfl) (by kernel_rfl) (fun _ _ _ h => h) (Or.inl ⟨by rfl, fun w' hSw => ?_⟩) (by assumption) ?_
                              · ((try dsimp only at hSw); go_simp)
                              try simp only [Act.put, List.setIfInBounds_toArray, List.set_cons_zero, List.set_cons_succ]
                              refine wpAnyH_take (i := 18) (oi := { dst := some 120, op := _, type := _, pos := _, after := _, guard := _ }) (v := .int .i64 (jb : Int)) rfl (by kernel_rfl) (by kernel_rfl) (by kernel_rfl) (fun _ _ _ h => h) (Or.inl ⟨by rfl, fun w' hSw => ?_⟩) (by assumption) ?_
                              · ((try dsimp only at hSw); go_simp)
                              try simp only [Act.put, List.setIfInBounds_toArray, List.set_cons_zero, List.set_cons_succ]
                              refine wpAnyH_take (i := 19) (oi := { dst := some 121, op := _, type := _, pos := _, after := _, guard := _ }) (v := .pointer (some ⟨gjb, fjb + jb, none⟩)) rfl (by kernel_rfl) (by kernel_rfl) (by kernel_rfl) (fun _ _ _ h => h) (Or.inl ⟨by rfl, fun w' hSw => ?_⟩) (by assumption) ?_
                              · ((try dsimp only at hSw); go_simp)
                              try simp only [Act.put, List.setIfInBounds_toArray, List.set_cons_zero, List.set_cons_succ]
                              refine wpAnyH_take (i := 20) (oi := { dst := some 122, op := _, type := _, pos := _, after := _, guard := _ }) (v := .string sy) rfl (by kernel_rfl) (by kernel_rfl) (by kernel_rfl) (fun _ _ _ h => h) (Or.inl ⟨by rfl, fun w' hSw => ?_⟩) (by assumption) ?_
                              · ((try dsimp only at hSw); go_simp)
                              try simp only [Act.put, List.setIfInBounds_toArray, List.set_cons_zero, List.set_cons_succ]
                              refine wpAnyH_take (i := 21) (oi := { dst := some 123, op := _, type := _, pos := _, after := _, guard := _ }) (v := .bool true) rfl (by kernel_rfl) (by kernel_rfl) (by kernel_rfl) (fun _ _ _ h => h) (Or.inl ⟨by rfl, fun w' hSw => ?_⟩) (by assumption) ?_
                              · ((try dsimp only at hSw); go_simp)
                              try simp only [Act.put, List.setIfInBounds_toArray, List.set_cons_zero, List.set_cons_succ]
                              refine wpAnyH_take (i := 22) (oi := { dst := some 124, op := _, type := _, pos := _, after := _, guard := _ }) (v := .bool true) rfl (by kernel_rfl) (by kernel_rfl) (by kernel_rfl) (fun _ _ _ h => h) (Or.inl ⟨by rfl, fun w' hSw => ?_⟩) (by assumption) ?_
                              · ((try dsimp only at hSw); go_simp)
                              try simp only [Act.put, List.setIfInBounds_toArray, List.set_cons_zero, List.set_cons_succ]
                              refine wpAnyH_done (by kernel_rfl) ?_ _
                              refine NoPanic.normal ?_
                              clear qja qjb tja tjb uja ujb cja cjb w1 x3 x4 x5 y3 y4 y5
                              generalize hwz : wB.drew = wz at *
                              clear hwz
                              have HBO : Hid (HunkLeft w none (.returned (.tuple #[.agg #[.int .i64 0, .string ⟨#[]⟩, .string ⟨#[]⟩, .int .i64 0, .slice none 0 0, .slice none 0 0], .bool false])) (setPrim wz (w.heap.size + 1 + 1) ⟨0, ⟨#[]⟩, ⟨#[]⟩, 0, none, 0, [], none, 0, []⟩) ∧ PrimAt (setPrim wz (w.heap.size + 1 + 1) ⟨0, ⟨#[]⟩, ⟨#[]⟩, 0, none, 0, [], none, 0, []⟩) (w.heap.size + 1 + 1) ⟨0, ⟨#[]⟩, ⟨#[]⟩, 0, none, 0, [], none, 0, []⟩) := ⟨HT1.out, HT2.out⟩
                              clear HT1 HT2 hHeld
                              go_upto_region 19 with (fail)
                              go_cut [5] from 5 (fun v wx => v = .bool false ∧ Hid (HunkLeft w none (.returned (.tuple #[.agg #[.int .i64 0, .string ⟨#[]⟩, .string ⟨#[]⟩, .int .i64 0, .slice none 0 0, .slice none 0 0], .bool false])) wx ∧ PrimAt wx (w.heap.size + 1 + 1) ⟨0, ⟨#[]⟩, ⟨#[]⟩, 0, none, 0, [], none, 0, []⟩))
                              case first =>
                                go_wp2_with fail
                                go_meet
                                case rel => exact ⟨rfl, HBO.out⟩
                              case rest =>
                                obtain ⟨rfl, HBP⟩ := hcut
                                clear HBO g0 gf0 g1 gf1 g2 gf2 g3 gf3 g4 gf4 g5 gf5
                                go_wp
                                (try simp only [Exit.inBlock, Exit.then])
                                refine bodyPost_ret (ret_prim2 rfl _ _ _ ⟨0, ⟨#[]⟩, ⟨#[]⟩, 0, none, 0, [], none, 0, []⟩ _ rfl rfl HBP.out.2) rfl ?_
                                rw [HNO.out]
                                exact HBP.out.1
        · as_aux_lemma =>
            have hiE : i = L + 1 := by omega
            have hiL3 : ¬ (i : Int) ≤ (L : Int) := by omega
            have hl := HL.out
            have hag : agreeP x.key y.key = true := by
              refine agree_yes fun j k hj hk e => ?_
              have e2 : x.at_ + (j : Int) = y.at_ + (k : Int) := e
              rw [HAB.out.1, HAB.out.2] at e2
              have hj2 : j < x.new.length := hj
              exact HAG.out j k hj hk (by omega) (by omega)
            have hsome := Lib.hid (hunks_yes HTR.out hag)
            obtain ⟨f1, f2⟩ := goA_fuse (p := x.key) (q := y.key) (by show 0 ≤ x.at_; rw [HAB.out.1]; omega) (by show 0 ≤ y.at_; rw [HAB.out.2]; omega)
            have ea : x.key.at_.toNat = a := by show x.at_.toNat = a; rw [HAB.out.1]; exact Int.toNat_natCast a
            have eb : y.key.at_.toNat = b := by show y.at_.toNat = b; rw [HAB.out.2]; exact Int.toNat_natCast b
            rw [ea, eb] at f1 f2
            have f3 : goA a x.new.length b x.old y.old (L + 1) = fuseOld x.key y.key := by rw [hl]; exact f1
            rw [← hiE] at f3
            have f4 : goA b y.old.length a y.new x.new (L + 1) = fuseNew x.key y.key := by rw [hl]; exact f2
            rw [← hiE] at f4
            have emn : min x.key.at_ y.key.at_ = mn := by show min x.at_ y.at_ = mn; rw [HAB.out.1, HAB.out.2, HMN.out]; omega
            have hzk : z.key = fuseH x.key y.key := by
              have h := HJ.out
              unfold fuseH
              rw [emn, ← f3, ← f4, ← h.old, ← h.new]
              show (⟨z.kind, z.p.data.toList, z.dst.data.toList, z.at_, z.old, z.new⟩ : Pk) = _
              rw [h.kind, h.p, h.dst, h.at_]
              rfl
            have hsep := HJ.out.sep (by have := OX.out.p; exact this) (by rw [HMN.out]; omega) (by rw [HMN.out]; omega) (by rw [HJ.out.old]; have := goA_len a x.new.length b x.old y.old i; omega) (by rw [HJ.out.new]; have := goA_len b y.old.length a y.new x.new i; omega)
            have hgz := HG.out.under HJ.out.below (by omega)
            have HT := Lib.hid (hunk_set (w := w) (o := some (fuseH x.key y.key)) (HA.out.trans (HJ.out.below.mono (by omega))) (show w.heap.size ≤ w.heap.size + 1 + 1 by omega) hgz hsep hzk true rfl)
            have HT1 := Lib.hid HT.out.1
            have HT2 := Lib.hid HT.out.2
            have g0 := hgz.c0
            have gf0 := hgz.fz 0
            have z0 := HJ.out.fz.at_.c0
            have g1 := hgz.c1
            have gf1 := hgz.fz 1
            have z1 := HJ.out.fz.at_.c1
            have g2 := hgz.c2
            have gf2 := hgz.fz 2
            have z2 := HJ.out.fz.at_.c2
            have g3 := hgz.c3
            have gf3 := hgz.fz 3
            have z3 := HJ.out.fz.at_.c3
            have g4 := hgz.c4
            have gf4 := hgz.fz 4
            have z4 := HJ.out.fz.at_.c4
            have g5 := hgz.c5
            have gf5 := hgz.fz 5
            have z5 := HJ.out.fz.at_.c5
            clear hiL hi0 hi1 ik hiE hLk hlt hgs HT hgz hsep hzk emn f1 f2 f3 f4 ea eb hag hl HAG HJ x3 x4 x5 y3 y4 y5
            go_upto_region 24 with (fail)
            go_wp
            (try simp only [Exit.inBlock, Exit.then])
            refine bodyPost_ret (ret_prim2 rfl _ _ _ z _ rfl rfl HT2.out) rfl ?_
            rw [hsome.out]
            exact HT1.out

end Go.Proofs.YtempamboacbgiaaGreatDoor
