/- Package patch: what looker's function tells of the next operation. -/
import Derived.Test.YtifkpelcdihdoaaGreatDoorProg
import Derived.WalkKit
import Derived.WalkSpells
import Derived.Handy
import Derived.Lib.Hide
import Derived.Shelf.Strings.BuilderK
import Derived.BigQuiet
import Derived.Deep.QuietTactic
import Derived.Lib.AtoiAllCases
import Derived.Lib.ItoaMem
import Derived.Test.YtifkpelcdihdoaaGreatDoorShelf
import Derived.Deep.RegionHeld3
import Derived.Deep.CutRange
import Derived.Lib.AppendIntMem
import Derived.BigRegion
import Derived.Deep.RegionWith
import Derived.Lib.QuietBelow
import Derived.Test.YtifkpelcdihdoaaGreatDoorCk23
import Derived.Test.YtifkpelcdihdoaaGreatDoorCk24
namespace Go.Proofs.YtifkpelcdihdoaaGreatDoor
open Go.RowKit
set_option linter.unusedVariables false

theorem LookAt.step {w w' : World} {gm gp gk g3 g2 k3 k2 bm : Nat} {x : Ptm} {m m' : List Ik} (h : LookAt w gm gp gk g3 g2 k3 k2 bm x m) (hg : w.grownBy w' (some bm)) (hs : IdSet w' bm m') : LookAt w' gm gp gk g3 g2 k3 k2 bm x m' :=
  ⟨cell_far hg h.mf (Ne.symm (h.set.ne_cell h.mf)), cell_far hg h.kn (Ne.symm (h.set.ne_cell h.kn)), ⟨(hg.block gp h.p.lt (fun e => h.set.ne_cells h.p.blk (by injection e with e; exact e.symm))).trans h.p.blk⟩, h.mc.grown h.set hg, h.kc.grown h.set hg, hs⟩
theorem LookAt.on {w w' : World} {gm gp gk g3 g2 k3 k2 bm : Nat} {x : Ptm} {m : List Ik} (h : LookAt w gm gp gk g3 g2 k3 k2 bm x m) (hb : Below w.heap.size w w') : LookAt w' gm gp gk g3 g2 k3 k2 bm x m :=
  h.step (Rk.grown_below (grownBy_refl _ _) hb) (h.set.on hb)
/-- What stands in each world while an operation is looked at. -/
def LookS (w1 : World) (gm gp gk g3 g2 k3 k2 bm : Nat) (x : Ptm) (W : World) : Prop :=
  w1.grownBy W (some bm) ∧ W.cell? ⟨gm, 0, none⟩ = some (.func (.func 119) #[] #[.pointer (some ⟨g3, 0, none⟩), .pointer (some ⟨g2, 0, none⟩)]) ∧ W.cell? ⟨gk, 0, none⟩ = some (.func (.func 121) #[] #[.pointer (some ⟨k3, 0, none⟩), .pointer (some ⟨k2, 0, none⟩)]) ∧ W.cell? ⟨gp, 0, none⟩ = some (.string x.name)
theorem lookS {w1 W : World} {gm gp gk g3 g2 k3 k2 bm : Nat} {x : Ptm} {m : List Ik} (h : LookAt w1 gm gp gk g3 g2 k3 k2 bm x m) (hg : w1.grownBy W (some bm)) : LookS w1 gm gp gk g3 g2 k3 k2 bm x W :=
  ⟨hg, cell_far hg h.mf (Ne.symm (h.set.ne_cell h.mf)), cell_far hg h.kn (Ne.symm (h.set.ne_cell h.kn)), cell_far hg h.p.c0 (Ne.symm (h.set.ne_cell h.p.c0))⟩
theorem below_look {W0 w1 W : World} {bm : Nat} (hb : Below W0.heap.size W0 w1) (hg : w1.grownBy W (some bm)) (hbm : W0.heap.size ≤ bm) : Below W0.heap.size W0 W :=
  hb.grown hg hb.size (fun q hq => by simp only [Option.some.injEq] at hq; omega)
theorem comes_ids {name : List UInt8} {o : OpK} (h : mayO o = true) : (comesO name o).length ≤ 2001 ∧ ∀ i ∈ comesO name o, name.length ≤ 9223372036854775807 → i.1.length ≤ 9223372036854775807 ∧ 0 ≤ i.2 ∧ i.2 ≤ 9223372036854775807 := by
  have ho := op_ok h
  have hl := (lines_few ho.lines).1
  have hf := ho.first
  unfold comesO
  by_cases h1 : o.kind = 1 ∨ o.kind = 2
  · rw [if_pos h1]
    refine ⟨by simp, fun i hi _ => ?_⟩
    simp only [List.mem_singleton] at hi
    subst hi
    have h2 := okK_n ho.self
    have h3 := okK_short ho.self
    exact ⟨by omega, h2.1, by omega⟩
  · rw [if_neg h1]
    by_cases h5 : o.kind = 5
    · rw [if_pos h5]
      unfold rowI
      by_cases hc : 0 ≤ o.first ∧ 1 ≤ (o.lines.length : Int) ∧ (o.lines.length : Int) ≤ 2000
      · rw [if_pos hc]
        refine ⟨by rw [List.length_map, List.length_range]; omega, fun i hi hn => ?_⟩
        obtain ⟨k, hk, rfl⟩ := List.mem_map.1 hi
        rw [List.mem_range] at hk
        refine ⟨hn, ?_, ?_⟩
        · show (0 : Int) ≤ o.first + (k : Int)
          omega
        · show o.first + (k : Int) ≤ _
          omega
      · rw [if_neg hc]
        exact ⟨by simp, fun i hi => by simp at hi⟩
    · rw [if_neg h5]
      exact ⟨by simp, fun i hi => by simp at hi⟩
theorem names_ids {o : OpK} (h : mayO o = true) : (idsO o).length ≤ 2003 ∧ ∀ i ∈ idsO o, okK i = true := by
  have ho := op_ok h
  have key : (namedO o).length ≤ 2003 ∧ ∀ i ∈ namedO o, okK i = true := by
    unfold namedO
    split
    · exact ⟨by simp, fun i hi => by simp only [List.mem_singleton] at hi; subst hi; exact ho.parent⟩
    · split
      · refine ⟨by simp, fun i hi => ?_⟩
        simp only [List.mem_cons, List.not_mem_nil, or_false] at hi
        rcases hi with rfl | rfl
        · exact ho.self
        · exact ho.parent
      · split
        · refine ⟨by simp, fun i hi => ?_⟩
          simp only [List.mem_cons, List.not_mem_nil, or_false] at hi
          rcases hi with rfl | rfl | rfl
          · exact ho.self
          · exact ho.parent
          · exact ho.dst
        · split
          · refine ⟨by rw [List.length_append]; have := ho.few; simp only [List.length_cons, List.length_nil]; omega, fun i hi => ?_⟩
            rcases List.mem_append.1 hi with hi | hi
            · simp only [List.mem_cons, List.not_mem_nil, or_false] at hi
              rcases hi with rfl | rfl | rfl
              · exact ho.self
              · exact ho.left
              · exact ho.right
            · exact ho.dels i hi
          · exact ⟨by simp, fun i hi => by simp at hi⟩
  unfold idsO
  refine ⟨Nat.le_trans (setI_len _) (Nat.le_trans (List.length_filter_le _ _) key.1), fun i hi => ?_⟩
  rw [mem_setI] at hi
  exact key.2 i (List.mem_filter.1 hi).1
theorem im_ok_of {i : Im} (h1 : i.key.1.length ≤ 9223372036854775807) (h2 : 0 ≤ i.key.2) (h3 : i.key.2 ≤ 9223372036854775807) : i.Ok := by
  have e : i.key.1.length = i.p.size := bytes_len i.p
  have e2 : i.key.2 = i.n := rfl
  exact ⟨by omega, by omega, by omega⟩
theorem ids_ok {name : List UInt8} {o : OpK} {l : List Im} (hk : ikeys l = comesO name o) (h : ∀ i ∈ comesO name o, i.1.length ≤ 9223372036854775807 ∧ 0 ≤ i.2 ∧ i.2 ≤ 9223372036854775807) : ∀ i ∈ l, i.Ok := fun i hi => by
  obtain ⟨h1, h2, h3⟩ := h i.key (by rw [← hk]; exact List.mem_map.2 ⟨i, hi, rfl⟩)
  exact im_ok_of h1 h2 h3
theorem ids_ok2 {ks : List Ik} {l : List Im} (hk : ikeys l = ks) (h : ∀ i ∈ ks, okK i = true) : ∀ i ∈ l, i.Ok := fun i hi => by
  have h0 := h i.key (by rw [← hk]; exact List.mem_map.2 ⟨i, hi, rfl⟩)
  have h1 := okK_short h0
  have h2 := okK_n h0
  exact im_ok_of (by omega) h2.1 (by omega)
/-- What looker's function leaves. -/
def StepLeft (w : World) (gm gp gk g3 g2 k3 k2 bm : Nat) (x : Ptm) (r : Bool) (m : List Ik) (e : Ending) (w' : World) : Prop := e = .returned (.bool r) ∧ (r = true → LookAt w' gm gp gk g3 g2 k3 k2 bm x m) ∧ w.grownBy w' (some bm)
set_option maxHeartbeats 8000000 in
set_option maxRecDepth 100000 in
theorem plook1_any (W0 : World) (gm gp gk g3 g2 k3 k2 bm : Nat) (x : Ptm) (m : List Ik) (o : Om) (w : World) (hL : LookAt w gm gp gk g3 g2 k3 k2 bm x m) (hb0 : Below W0.heap.size W0 w) (hbm : W0.heap.size ≤ bm) (oo : o.Ok W0 W0.heap.size) (so : o.Sz) (hd : Strs W0 W0.heap.size x.a1 (toBs x.deps)) (hri : Rising x.deps) (hdn : x.deps.length ≤ 1000000) (hnm : x.name.size ≤ 9223372036854775807) (hT : Tabs W0) (hmn : m.length ≤ 100000000000) (r : Bool) (hr : stepO x.name.data.toList x.deps m o.key = r) :
    Calls Tryz.prog 99 #[.agg #[.int .i64 o.kind, .string o.self.p, .int .i64 o.self.n, .string o.parent.p, .int .i64 o.parent.n, .string o.dst.p, .int .i64 o.dst.n, .string o.name, .string o.dname, .string o.left.p, .int .i64 o.left.n, .string o.right.p, .int .i64 o.right.n, .slice o.a1 o.dels.length o.c1, .int .i64 o.first, .slice o.a2 o.lines.length o.c2], .pointer (some ⟨gm, 0, none⟩), .pointer (some ⟨gp, 0, none⟩), .pointer (some ⟨gk, 0, none⟩)] w (StepLeft w gm gp gk g3 g2 k3 k2 bm x r (m ++ comesO x.name.data.toList o.key)) := by
  obtain ⟨hb, hx⟩ := op_box w o
  have HX := Lib.hid hx
  have HL := Lib.hid (hL.on hb)
  have HB1 := Lib.hid (hb0.trans (hb.mono hb0.size))
  have HW := Lib.hid (Rk.grown_below (grownBy_refl w (some bm)) hb)
  have HXN : Hid (some bm ≠ some w.heap.size) := fun e => by
    have h1 := hL.set.lt
    simp only [Option.some.injEq] at e
    omega
  have HBM := Lib.hid hbm
  have OX := Lib.hid oo
  have SO := Lib.hid so
  have HD := Lib.hid hd
  have HRI := Lib.hid hri
  have HT := Lib.hid hT
  have HMN := Lib.hid hmn
  have HR := Lib.hid hr
  have HNM : Hid (x.name.data.toList.length ≤ 9223372036854775807) := by show _ ≤ _; rw [bytes_len]; exact hnm
  clear hb hx hL hb0 hbm oo so hd hri hT hmn hr hnm
  suffices H : Calls Tryz.prog 99 #[.agg #[.int .i64 o.kind, .string o.self.p, .int .i64 o.self.n, .string o.parent.p, .int .i64 o.parent.n, .string o.dst.p, .int .i64 o.dst.n, .string o.name, .string o.dname, .string o.left.p, .int .i64 o.left.n, .string o.right.p, .int .i64 o.right.n, .slice o.a1 o.dels.length o.c1, .int .i64 o.first, .slice o.a2 o.lines.length o.c2], .pointer (some ⟨gm, 0, none⟩), .pointer (some ⟨gp, 0, none⟩), .pointer (some ⟨gk, 0, none⟩)] w (StepLeft (w.alloc (.cells #[.int .i64 o.kind, .string o.self.p, .int .i64 o.self.n, .string o.parent.p, .int .i64 o.parent.n, .string o.dst.p, .int .i64 o.dst.n, .string o.name, .string o.dname, .string o.left.p, .int .i64 o.left.n, .string o.right.p, .int .i64 o.right.n, .slice o.a1 o.dels.length o.c1, .int .i64 o.first, .slice o.a2 o.lines.length o.c2] 84)) gm gp gk g3 g2 k3 k2 bm x r (m ++ comesO x.name.data.toList o.key)) from H.mono fun e w' ⟨h1, h2, h3⟩ => ⟨h1, h2, Rk.grown_both HW.out h3⟩
  clear HW
  go_enter Tryz.func99, Tryz.ntmps99
  go_upto_region 1 with (fail)
  generalize (w.alloc (.cells #[.int .i64 o.kind, .string o.self.p, .int .i64 o.self.n, .string o.parent.p, .int .i64 o.parent.n, .string o.dst.p, .int .i64 o.dst.n, .string o.name, .string o.dname, .string o.left.p, .int .i64 o.left.n, .string o.right.p, .int .i64 o.right.n, .slice o.a1 o.dels.length o.c1, .int .i64 o.first, .slice o.a2 o.lines.length o.c2] 84)) = w1 at *
  generalize w.heap.size = go at *
  -- @P1
  have HG0 : Hid (w1.grownBy w1.drew (some bm)) := Rk.grown_below (grownBy_refl _ _) ((Below.refl w1.heap.size w1).drew)
  refine wp_region_noPanic ?_
  refine wp_region_held_drew (S := LookS w1 gm gp gk g3 g2 k3 k2 bm x) (by kernel_rfl) (lookS HL.out HG0.out) (fun hHeld => ?_)
  refine wpAnyH_take (i := 0) (oi := { dst := some 6, op := _, type := _, pos := _, after := _, guard := _ }) (v := .agg #[.int .i64 o.kind, .string o.self.p, .int .i64 o.self.n, .string o.parent.p, .int .i64 o.parent.n, .string o.dst.p, .int .i64 o.dst.n, .string o.name, .string o.dname, .string o.left.p, .int .i64 o.left.n, .string o.right.p, .int .i64 o.right.n, .slice o.a1 o.dels.length o.c1, .int .i64 o.first, .slice o.a2 o.lines.length o.c2]) rfl (by kernel_rfl) (by kernel_rfl) (by kernel_rfl) (fun _ _ _ h => h) (yields_load_op (by rfl) (.tmp 4) rfl go o rfl (fun W hW => HX.out.grown hW.1 HXN.out)) (by assumption) ?_
  try simp only [Act.put, List.setIfInBounds_toArray, List.set_cons_zero, List.set_cons_succ]
  have HS0 : Hid (IdSet w1.drew bm m) := HL.out.set.on ((Below.refl w1.heap.size w1).drew)
  generalize hwD : w1.drew = wD at *
  clear hwD
  obtain ⟨rc, hrc⟩ : ∃ rc : Int, (if mayO o.key = true then 0 else 2) = rc := ⟨_, rfl⟩
  have HRC := Lib.hid hrc
  clear hrc
  refine wpAnyH_ready (rs := [1]) (by kernel_rfl) (by simp) ?_
  refine AllReadyH.cons rfl (fun K hK => ?_) AllReadyH.nil
  go_simp
  go_at_call 100
  refine (opcheckr_any o _ (OX.out.on (below_look HB1.out HG0.out HBM.out)) SO.out (Tabs.on HT.out (below_look HB1.out HG0.out HBM.out)) rc HRC.out).mono ?_
  rintro e wa ⟨rfl, hb⟩
  have HG1 := Lib.hid (Rk.grown_below HG0.out hb)
  have HS1 : Hid (IdSet wa bm m) := HS0.out.on hb
  clear hb
  refine hK.out _ _ (lookS HL.out HG1.out) (fun hHeld1 => ?_)
  clear hK K hHeld HG0
  try simp only [Act.put, List.setIfInBounds_toArray, List.set_cons_zero, List.set_cons_succ]
  cases hm : mayO o.key
  · have hrc := HRC.out
    rw [hm, if_neg Bool.false_ne_true] at hrc
    subst hrc
    have HR0 : Hid (r = false) := by show _ = _; rw [← HR.out]; unfold stepO; rw [hm, Bool.false_and, Bool.false_and]
    clear HRC hm
    refine wpAnyH_take (i := 2) (oi := { dst := some 8, op := _, type := _, pos := _, after := _, guard := _ }) (v := .bool false) rfl (by kernel_rfl) (by kernel_rfl) (by kernel_rfl) (fun _ _ _ h => h) (Or.inl ⟨by rfl, fun w' hSw => ?_⟩) (by assumption) ?_
    · (obtain ⟨hs0, hs1, hs2, hs3⟩ := hSw; go_simp)
    try simp only [Act.put, List.setIfInBounds_toArray, List.set_cons_zero, List.set_cons_succ]
    refine wpAnyH_take (i := 3) (oi := { dst := some 9, op := _, type := _, pos := _, after := _, guard := _ }) (v := .bool false) rfl (by kernel_rfl) (by kernel_rfl) (by kernel_rfl) (fun _ _ _ h => h) (Or.inl ⟨by rfl, fun w' hSw => ?_⟩) (by assumption) ?_
    · (obtain ⟨hs0, hs1, hs2, hs3⟩ := hSw; go_simp)
    try simp only [Act.put, List.setIfInBounds_toArray, List.set_cons_zero, List.set_cons_succ]
    refine wpAnyH_take (i := 4) (oi := { dst := some 10, op := _, type := _, pos := _, after := _, guard := _ }) (v := undef) rfl (by kernel_rfl) (by kernel_rfl) (by kernel_rfl) (fun _ _ _ h => h) (Or.inr ⟨by rfl, rfl⟩) (by assumption) ?_
    try simp only [Act.put, List.setIfInBounds_toArray, List.set_cons_zero, List.set_cons_succ]
    refine wpAnyH_take (i := 5) (oi := { dst := some 11, op := _, type := _, pos := _, after := _, guard := _ }) (v := undef) rfl (by kernel_rfl) (by kernel_rfl) (by kernel_rfl) (fun _ _ _ h => h) (Or.inr ⟨by rfl, rfl⟩) (by assumption) ?_
    try simp only [Act.put, List.setIfInBounds_toArray, List.set_cons_zero, List.set_cons_succ]
    refine wpAnyH_take (i := 6) (oi := { dst := some 12, op := _, type := _, pos := _, after := _, guard := _ }) (v := undef) rfl (by kernel_rfl) (by kernel_rfl) (by kernel_rfl) (fun _ _ _ h => h) (Or.inr ⟨by rfl, rfl⟩) (by assumption) ?_
    try simp only [Act.put, List.setIfInBounds_toArray, List.set_cons_zero, List.set_cons_succ]
    refine wpAnyH_take (i := 7) (oi := { dst := some 13, op := _, type := _, pos := _, after := _, guard := _ }) (v := undef) rfl (by kernel_rfl) (by kernel_rfl) (by kernel_rfl) (fun _ _ _ h => h) (Or.inr ⟨by rfl, rfl⟩) (by assumption) ?_
    try simp only [Act.put, List.setIfInBounds_toArray, List.set_cons_zero, List.set_cons_succ]
    refine wpAnyH_take (i := 8) (oi := { dst := some 14, op := _, type := _, pos := _, after := _, guard := _ }) (v := undef) rfl (by kernel_rfl) (by kernel_rfl) (by kernel_rfl) (fun _ _ _ h => h) (Or.inr ⟨by rfl, rfl⟩) (by assumption) ?_
    try simp only [Act.put, List.setIfInBounds_toArray, List.set_cons_zero, List.set_cons_succ]
    refine wpAnyH_take (i := 9) (oi := { dst := some 15, op := _, type := _, pos := _, after := _, guard := _ }) (v := undef) rfl (by kernel_rfl) (by kernel_rfl) (by kernel_rfl) (fun _ _ _ h => h) (Or.inr ⟨by rfl, rfl⟩) (by assumption) ?_
    try simp only [Act.put, List.setIfInBounds_toArray, List.set_cons_zero, List.set_cons_succ]
    refine wpAnyH_take (i := 10) (oi := { dst := some 16, op := _, type := _, pos := _, after := _, guard := _ }) (v := .bool false) rfl (by kernel_rfl) (by kernel_rfl) (by kernel_rfl) (fun _ _ _ h => h) (Or.inl ⟨by rfl, fun w' hSw => ?_⟩) (by assumption) ?_
    · (obtain ⟨hs0, hs1, hs2, hs3⟩ := hSw; go_simp)
    try simp only [Act.put, List.setIfInBounds_toArray, List.set_cons_zero, List.set_cons_succ]
    refine wpAnyH_take (i := 11) (oi := { dst := some 17, op := _, type := _, pos := _, after := _, guard := _ }) (v := .bool false) rfl (by kernel_rfl) (by kernel_rfl) (by kernel_rfl) (fun _ _ _ h => h) (Or.inl ⟨by rfl, fun w' hSw => ?_⟩) (by assumption) ?_
    · (obtain ⟨hs0, hs1, hs2, hs3⟩ := hSw; go_simp)
    try simp only [Act.put, List.setIfInBounds_toArray, List.set_cons_zero, List.set_cons_succ]
    refine wpAnyH_take (i := 12) (oi := { dst := some 18, op := _, type := _, pos := _, after := _, guard := _ }) (v := undef) rfl (by kernel_rfl) (by kernel_rfl) (by kernel_rfl) (fun _ _ _ h => h) (Or.inr ⟨by rfl, rfl⟩) (by assumption) ?_
    try simp only [Act.put, List.setIfInBounds_toArray, List.set_cons_zero, List.set_cons_succ]
    refine wpAnyH_take (i := 13) (oi := { dst := some 19, op := _, type := _, pos := _, after := _, guard := _ }) (v := undef) rfl (by kernel_rfl) (by kernel_rfl) (by kernel_rfl) (fun _ _ _ h => h) (Or.inr ⟨by rfl, rfl⟩) (by assumption) ?_
    try simp only [Act.put, List.setIfInBounds_toArray, List.set_cons_zero, List.set_cons_succ]
    refine wpAnyH_take (i := 14) (oi := { dst := some 20, op := _, type := _, pos := _, after := _, guard := _ }) (v := undef) rfl (by kernel_rfl) (by kernel_rfl) (by kernel_rfl) (fun _ _ _ h => h) (Or.inr ⟨by rfl, rfl⟩) (by assumption) ?_
    try simp only [Act.put, List.setIfInBounds_toArray, List.set_cons_zero, List.set_cons_succ]
    refine wpAnyH_take (i := 15) (oi := { dst := some 21, op := _, type := _, pos := _, after := _, guard := _ }) (v := undef) rfl (by kernel_rfl) (by kernel_rfl) (by kernel_rfl) (fun _ _ _ h => h) (Or.inr ⟨by rfl, rfl⟩) (by assumption) ?_
    try simp only [Act.put, List.setIfInBounds_toArray, List.set_cons_zero, List.set_cons_succ]
    refine wpAnyH_take (i := 16) (oi := { dst := some 22, op := _, type := _, pos := _, after := _, guard := _ }) (v := .bool false) rfl (by kernel_rfl) (by kernel_rfl) (by kernel_rfl) (fun _ _ _ h => h) (Or.inl ⟨by rfl, fun w' hSw => ?_⟩) (by assumption) ?_
    · (obtain ⟨hs0, hs1, hs2, hs3⟩ := hSw; go_simp)
    try simp only [Act.put, List.setIfInBounds_toArray, List.set_cons_zero, List.set_cons_succ]
    refine wpAnyH_take (i := 17) (oi := { dst := some 5, op := _, type := _, pos := _, after := _, guard := _ }) (v := .bool false) rfl (by kernel_rfl) (by kernel_rfl) (by kernel_rfl) (fun _ _ _ h => h) (Or.inl ⟨by rfl, fun w' hSw => ?_⟩) (by assumption) ?_
    · (obtain ⟨hs0, hs1, hs2, hs3⟩ := hSw; go_simp)
    try simp only [Act.put, List.setIfInBounds_toArray, List.set_cons_zero, List.set_cons_succ]
    refine wpAnyH_done (by kernel_rfl) ?_ _
    refine NoPanic.normal ?_
    go_wp2
    go_ret
    exact ⟨by rw [HR0.out]; rfl, (fun h => by rw [HR0.out] at h; cases h), HG1.out⟩
  · have hrc := HRC.out
    rw [hm, if_pos rfl] at hrc
    subst hrc
    have HCK := Lib.hid (comes_ids (name := x.name.data.toList) hm)
    have HNK := Lib.hid (names_ids hm)
    have HFL := Lib.hid (op_ok hm).first
    have HFW := Lib.hid (op_ok hm).few
    have hst : stepO x.name.data.toList x.deps m o.key = (makesL x.name.data.toList m (comesO x.name.data.toList o.key) && knowsL x.deps (m ++ comesO x.name.data.toList o.key) (idsO o.key)) := by unfold stepO; rw [hm, Bool.true_and]
    have HST := Lib.hid hst
    clear HRC hm hst
    refine wpAnyH_take (i := 2) (oi := { dst := some 8, op := _, type := _, pos := _, after := _, guard := _ }) (v := .bool true) rfl (by kernel_rfl) (by kernel_rfl) (by kernel_rfl) (fun _ _ _ h => h) (Or.inl ⟨by rfl, fun w' hSw => ?_⟩) (by assumption) ?_
    · (obtain ⟨hs0, hs1, hs2, hs3⟩ := hSw; go_simp)
    try simp only [Act.put, List.setIfInBounds_toArray, List.set_cons_zero, List.set_cons_succ]
    refine wpAnyH_take (i := 3) (oi := { dst := some 9, op := _, type := _, pos := _, after := _, guard := _ }) (v := .bool true) rfl (by kernel_rfl) (by kernel_rfl) (by kernel_rfl) (fun _ _ _ h => h) (Or.inl ⟨by rfl, fun w' hSw => ?_⟩) (by assumption) ?_
    · (obtain ⟨hs0, hs1, hs2, hs3⟩ := hSw; go_simp)
    try simp only [Act.put, List.setIfInBounds_toArray, List.set_cons_zero, List.set_cons_succ]
    refine wpAnyH_take (i := 4) (oi := { dst := some 10, op := _, type := _, pos := _, after := _, guard := _ }) (v := .func (.func 119) #[] #[.pointer (some ⟨g3, 0, none⟩), .pointer (some ⟨g2, 0, none⟩)]) rfl (by kernel_rfl) (by kernel_rfl) (by kernel_rfl) (fun _ _ _ h => h) (Or.inl ⟨by rfl, fun w' hSw => ?_⟩) (by assumption) ?_
    · (obtain ⟨hs0, hs1, hs2, hs3⟩ := hSw; go_simp)
    try simp only [Act.put, List.setIfInBounds_toArray, List.set_cons_zero, List.set_cons_succ]
    refine wpAnyH_take (i := 5) (oi := { dst := some 11, op := _, type := _, pos := _, after := _, guard := _ }) (v := .pointer (some ⟨gp, 0, none⟩)) rfl (by kernel_rfl) (by kernel_rfl) (by kernel_rfl) (fun _ _ _ h => h) (Or.inl ⟨by rfl, fun w' hSw => ?_⟩) (by assumption) ?_
    · (obtain ⟨hs0, hs1, hs2, hs3⟩ := hSw; go_simp)
    try simp only [Act.put, List.setIfInBounds_toArray, List.set_cons_zero, List.set_cons_succ]
    refine wpAnyH_take (i := 6) (oi := { dst := some 12, op := _, type := _, pos := _, after := _, guard := _ }) (v := .string x.name) rfl (by kernel_rfl) (by kernel_rfl) (by kernel_rfl) (fun _ _ _ h => h) (Or.inl ⟨by rfl, fun w' hSw => ?_⟩) (by assumption) ?_
    · (obtain ⟨hs0, hs1, hs2, hs3⟩ := hSw; go_simp)
    try simp only [Act.put, List.setIfInBounds_toArray, List.set_cons_zero, List.set_cons_succ]
    refine wpAnyH_take (i := 7) (oi := { dst := some 13, op := _, type := _, pos := _, after := _, guard := _ }) (v := .agg #[.int .i64 o.kind, .string o.self.p, .int .i64 o.self.n, .string o.parent.p, .int .i64 o.parent.n, .string o.dst.p, .int .i64 o.dst.n, .string o.name, .string o.dname, .string o.left.p, .int .i64 o.left.n, .string o.right.p, .int .i64 o.right.n, .slice o.a1 o.dels.length o.c1, .int .i64 o.first, .slice o.a2 o.lines.length o.c2]) rfl (by kernel_rfl) (by kernel_rfl) (by kernel_rfl) (fun _ _ _ h => h) (yields_load_op (by rfl) (.tmp 4) rfl go o rfl (fun W hW => HX.out.grown hW.1 HXN.out)) (by assumption) ?_
    try simp only [Act.put, List.setIfInBounds_toArray, List.set_cons_zero, List.set_cons_succ]
    refine wpAnyH_ready (rs := [8]) (by kernel_rfl) (by simp) ?_
    refine AllReadyH.cons rfl (fun K hK => ?_) AllReadyH.nil
    go_simp
    go_at_call 101
    refine (opcomes_any x.name o _ (OX.out.on (below_look HB1.out HG1.out HBM.out)) (by have h : o.first ≤ 1048576 := HFL.out.2; omega)).mono ?_
    rintro e wb ⟨A, n, c, l, rfl, hk, ho, hb⟩
    obtain rfl := ho.parts.1
    have HIL := Lib.hid ho.parts.2.1
    have HG2 := Lib.hid (Rk.grown_below HG1.out hb)
    have HK := Lib.hid hk
    have HS2 : Hid (IdSet wb bm m) := HS1.out.on hb
    have HLN : Hid (l.length ≤ 100000) := by show _ ≤ _; rw [← ikeys_len, hk]; exact Nat.le_trans HCK.out.1 (by decide)
    have HLO : Hid (∀ i ∈ l, i.Ok) := ids_ok (name := x.name.data.toList) hk (fun i hi => HCK.out.2 i hi HNM.out)
    clear hk ho hb HCK
    refine hK.out _ _ (lookS HL.out HG2.out) (fun hHeld8 => ?_)
    clear hK K hHeld1 HG1
    try simp only [Act.put, List.setIfInBounds_toArray, List.set_cons_zero, List.set_cons_succ]
    obtain ⟨r1, hr1⟩ : ∃ b, makesL x.name.data.toList m (ikeys l) = b := ⟨_, rfl⟩
    have HR1 := Lib.hid hr1
    rw [← HK.out, hr1] at HST
    clear hr1
    refine wpAnyH_ready (rs := [9]) (by kernel_rfl) (by simp) ?_
    refine AllReadyH.cons rfl (fun K hK => ?_) AllReadyH.nil
    go_simp
    go_at_call 119
    refine (maker1_any g3 g2 bm x m A l c _ (HL.out.mc.grown HL.out.set HG2.out) HS2.out HIL.out HLN.out HMN.out HLO.out r1 HR1.out).mono ?_
    rintro e wc ⟨rfl, hs, hg⟩
    have HG3 := Lib.hid (Rk.grown_both HG2.out hg)
    have HS3 : Hid (r1 = true → IdSet wc bm (m ++ ikeys l)) := hs
    clear hs hg HIL HLN HLO HR1
    refine hK.out _ _ (lookS HL.out HG3.out) (fun hHeld9 => ?_)
    clear hK K hHeld8 HG2
    try simp only [Act.put, List.setIfInBounds_toArray, List.set_cons_zero, List.set_cons_succ]
    refine wpAnyH_take (i := 10) (oi := { dst := some 16, op := _, type := _, pos := _, after := _, guard := _ }) (v := .bool r1) rfl (by kernel_rfl) (by kernel_rfl) (by kernel_rfl) (fun _ _ _ h => h) (Or.inl ⟨by rfl, fun w' hSw => ?_⟩) (by assumption) ?_
    · (obtain ⟨hs0, hs1, hs2, hs3⟩ := hSw; go_simp)
    try simp only [Act.put, List.setIfInBounds_toArray, List.set_cons_zero, List.set_cons_succ]
    refine wpAnyH_take (i := 11) (oi := { dst := some 17, op := _, type := _, pos := _, after := _, guard := _ }) (v := .bool r1) rfl (by kernel_rfl) (by kernel_rfl) (by kernel_rfl) (fun _ _ _ h => h) (Or.inl ⟨by rfl, fun w' hSw => ?_⟩) (by assumption) ?_
    · (obtain ⟨hs0, hs1, hs2, hs3⟩ := hSw; go_simp)
    try simp only [Act.put, List.setIfInBounds_toArray, List.set_cons_zero, List.set_cons_succ]
    cases r1
    · have HR0 : Hid (r = false) := by show _ = _; rw [← HR.out, HST.out, Bool.false_and]
      clear HST HS3
      refine wpAnyH_take (i := 12) (oi := { dst := some 18, op := _, type := _, pos := _, after := _, guard := _ }) (v := undef) rfl (by kernel_rfl) (by kernel_rfl) (by kernel_rfl) (fun _ _ _ h => h) (Or.inr ⟨by rfl, rfl⟩) (by assumption) ?_
      try simp only [Act.put, List.setIfInBounds_toArray, List.set_cons_zero, List.set_cons_succ]
      refine wpAnyH_take (i := 13) (oi := { dst := some 19, op := _, type := _, pos := _, after := _, guard := _ }) (v := undef) rfl (by kernel_rfl) (by kernel_rfl) (by kernel_rfl) (fun _ _ _ h => h) (Or.inr ⟨by rfl, rfl⟩) (by assumption) ?_
      try simp only [Act.put, List.setIfInBounds_toArray, List.set_cons_zero, List.set_cons_succ]
      refine wpAnyH_take (i := 14) (oi := { dst := some 20, op := _, type := _, pos := _, after := _, guard := _ }) (v := undef) rfl (by kernel_rfl) (by kernel_rfl) (by kernel_rfl) (fun _ _ _ h => h) (Or.inr ⟨by rfl, rfl⟩) (by assumption) ?_
      try simp only [Act.put, List.setIfInBounds_toArray, List.set_cons_zero, List.set_cons_succ]
      refine wpAnyH_take (i := 15) (oi := { dst := some 21, op := _, type := _, pos := _, after := _, guard := _ }) (v := undef) rfl (by kernel_rfl) (by kernel_rfl) (by kernel_rfl) (fun _ _ _ h => h) (Or.inr ⟨by rfl, rfl⟩) (by assumption) ?_
      try simp only [Act.put, List.setIfInBounds_toArray, List.set_cons_zero, List.set_cons_succ]
      refine wpAnyH_take (i := 16) (oi := { dst := some 22, op := _, type := _, pos := _, after := _, guard := _ }) (v := .bool false) rfl (by kernel_rfl) (by kernel_rfl) (by kernel_rfl) (fun _ _ _ h => h) (Or.inl ⟨by rfl, fun w' hSw => ?_⟩) (by assumption) ?_
      · (obtain ⟨hs0, hs1, hs2, hs3⟩ := hSw; go_simp)
      try simp only [Act.put, List.setIfInBounds_toArray, List.set_cons_zero, List.set_cons_succ]
      refine wpAnyH_take (i := 17) (oi := { dst := some 5, op := _, type := _, pos := _, after := _, guard := _ }) (v := .bool false) rfl (by kernel_rfl) (by kernel_rfl) (by kernel_rfl) (fun _ _ _ h => h) (Or.inl ⟨by rfl, fun w' hSw => ?_⟩) (by assumption) ?_
      · (obtain ⟨hs0, hs1, hs2, hs3⟩ := hSw; go_simp)
      try simp only [Act.put, List.setIfInBounds_toArray, List.set_cons_zero, List.set_cons_succ]
      refine wpAnyH_done (by kernel_rfl) ?_ _
      refine NoPanic.normal ?_
      go_wp2
      go_ret
      exact ⟨by rw [HR0.out]; rfl, (fun h => by rw [HR0.out] at h; cases h), HG3.out⟩
    · have HL3 := Lib.hid (HL.out.step HG3.out (HS3.out rfl))
      rw [Bool.true_and] at HST
      clear HS3
      refine wpAnyH_take (i := 12) (oi := { dst := some 18, op := _, type := _, pos := _, after := _, guard := _ }) (v := .func (.func 121) #[] #[.pointer (some ⟨k3, 0, none⟩), .pointer (some ⟨k2, 0, none⟩)]) rfl (by kernel_rfl) (by kernel_rfl) (by kernel_rfl) (fun _ _ _ h => h) (Or.inl ⟨by rfl, fun w' hSw => ?_⟩) (by assumption) ?_
      · (obtain ⟨hs0, hs1, hs2, hs3⟩ := hSw; go_simp)
      try simp only [Act.put, List.setIfInBounds_toArray, List.set_cons_zero, List.set_cons_succ]
      refine wpAnyH_take (i := 13) (oi := { dst := some 19, op := _, type := _, pos := _, after := _, guard := _ }) (v := .agg #[.int .i64 o.kind, .string o.self.p, .int .i64 o.self.n, .string o.parent.p, .int .i64 o.parent.n, .string o.dst.p, .int .i64 o.dst.n, .string o.name, .string o.dname, .string o.left.p, .int .i64 o.left.n, .string o.right.p, .int .i64 o.right.n, .slice o.a1 o.dels.length o.c1, .int .i64 o.first, .slice o.a2 o.lines.length o.c2]) rfl (by kernel_rfl) (by kernel_rfl) (by kernel_rfl) (fun _ _ _ h => h) (yields_load_op (by rfl) (.tmp 4) rfl go o rfl (fun W hW => HX.out.grown hW.1 HXN.out)) (by assumption) ?_
      try simp only [Act.put, List.setIfInBounds_toArray, List.set_cons_zero, List.set_cons_succ]
      refine wpAnyH_ready (rs := [14]) (by kernel_rfl) (by simp) ?_
      refine AllReadyH.cons rfl (fun K hK => ?_) AllReadyH.nil
      go_simp
      go_at_call 102
      refine (opidset_any o _ (OX.out.on (below_look HB1.out HG3.out HBM.out)) (by have h : o.key.dels.length ≤ 2000 := HFW.out; rw [show o.key.dels.length = o.dels.length from ikeys_len _] at h; omega)).mono ?_
      rintro e wd ⟨A2, n2, c2, l2, rfl, hk2, ho2, hb⟩
      obtain rfl := ho2.parts.1
      have HIL2 := Lib.hid ho2.parts.2.1
      have HG4 := Lib.hid (Rk.grown_below HG3.out hb)
      replace HL3 := Lib.hid (HL3.out.on hb)
      have HK2 := Lib.hid hk2
      have HLN2 : Hid (l2.length ≤ 100000) := by show _ ≤ _; rw [← ikeys_len, hk2]; exact Nat.le_trans HNK.out.1 (by decide)
      have HLO2 : Hid (∀ i ∈ l2, i.Ok) := ids_ok2 hk2 HNK.out.2
      clear hk2 ho2 hb HNK
      refine hK.out _ _ (lookS HL.out HG4.out) (fun hHeld14 => ?_)
      clear hK K hHeld9 HG3
      try simp only [Act.put, List.setIfInBounds_toArray, List.set_cons_zero, List.set_cons_succ]
      have HST2 : Hid (knowsL x.deps (m ++ ikeys l) (ikeys l2) = r) := by show _ = _; rw [HK2.out, HK.out, ← HR.out, HST.out, HK.out]
      clear HST
      refine wpAnyH_ready (rs := [15]) (by kernel_rfl) (by simp) ?_
      refine AllReadyH.cons rfl (fun K hK => ?_) AllReadyH.nil
      go_simp
      go_at_call 121
      refine (knower1_any k3 k2 bm x (m ++ ikeys l) A2 l2 c2 _ HL3.out.kc HL3.out.set (HD.out.on (below_look HB1.out HG4.out HBM.out)) HRI.out hdn HIL2.out HLN2.out HLO2.out r HST2.out).mono ?_
      rintro e we ⟨rfl, hb⟩
      have HG5 := Lib.hid (Rk.grown_below HG4.out hb)
      replace HL3 := Lib.hid (HL3.out.on hb)
      clear hb HIL2 HLN2 HLO2 HST2
      refine hK.out _ _ (lookS HL.out HG5.out) (fun hHeld15 => ?_)
      clear hK K hHeld14 HG4
      try simp only [Act.put, List.setIfInBounds_toArray, List.set_cons_zero, List.set_cons_succ]
      refine wpAnyH_take (i := 16) (oi := { dst := some 22, op := _, type := _, pos := _, after := _, guard := _ }) (v := .bool r) rfl (by kernel_rfl) (by kernel_rfl) (by kernel_rfl) (fun _ _ _ h => h) (Or.inl ⟨by rfl, fun w' hSw => ?_⟩) (by assumption) ?_
      · (obtain ⟨hs0, hs1, hs2, hs3⟩ := hSw; go_simp)
      try simp only [Act.put, List.setIfInBounds_toArray, List.set_cons_zero, List.set_cons_succ]
      refine wpAnyH_take (i := 17) (oi := { dst := some 5, op := _, type := _, pos := _, after := _, guard := _ }) (v := .bool r) rfl (by kernel_rfl) (by kernel_rfl) (by kernel_rfl) (fun _ _ _ h => h) (Or.inl ⟨by rfl, fun w' hSw => ?_⟩) (by assumption) ?_
      · (obtain ⟨hs0, hs1, hs2, hs3⟩ := hSw; go_simp)
      try simp only [Act.put, List.setIfInBounds_toArray, List.set_cons_zero, List.set_cons_succ]
      refine wpAnyH_done (by kernel_rfl) ?_ _
      refine NoPanic.normal ?_
      go_wp2
      go_ret
      exact ⟨rfl, (fun _ => by rw [← HK.out]; exact HL3.out), HG5.out⟩
end Go.Proofs.YtifkpelcdihdoaaGreatDoor
