/- Package patch: the function that looks at operations, one behind the other. -/
import Derived.Test.YtifkpelcdihdoaaGreatDoorProg
import Derived.WalkKit
import Derived.WalkSpells
import Derived.Handy
import Derived.Lib.Hide
import Derived.Shelf.Strings.BuilderK
import Derived.BigQuiet
import Derived.Deep.QuietTactic
import Derived.Lib.AtoiAllCases
import Derived.Lib.ItoaMem
import Derived.Test.YtifkpelcdihdoaaGreatDoorShelf
import Derived.Deep.RegionHeld3
import Derived.Deep.CutRange
import Derived.Lib.AppendIntMem
import Derived.Deep.RegionHeld
import Derived.Laws.EntriesVeiled
import Derived.Test.YtifkpelcdihdoaaGreatDoorCk22
namespace Go.Proofs.YtifkpelcdihdoaaGreatDoor
open Go.RowKit
set_option linter.unusedVariables false

/-- What looker's function has: maker's function, the patch, knower's function; what these have; the map. -/
structure LookAt (w : World) (gm gp gk g3 g2 k3 k2 bm : Nat) (x : Ptm) (m : List Ik) : Prop where
  mf : w.cell? ⟨gm, 0, none⟩ = some (.func (.func 119) #[] #[.pointer (some ⟨g3, 0, none⟩), .pointer (some ⟨g2, 0, none⟩)])
  kn : w.cell? ⟨gk, 0, none⟩ = some (.func (.func 121) #[] #[.pointer (some ⟨k3, 0, none⟩), .pointer (some ⟨k2, 0, none⟩)])
  p : PatAt w gp x
  mc : Caught w g3 g2 bm x
  kc : Caught w k3 k2 bm x
  set : IdSet w bm m
theorem frozen_below {w w' : World} {b i : Nat} (hb : Below w.heap.size w w') (hl : b < w.heap.size) : w'.frozen? ⟨b, i, none⟩ = w.frozen? ⟨b, i, none⟩ := by
  simp only [World.frozen?, hb.block b hl]
theorem set_cell_at {w : World} {g : Nat} {u v : Value} (h : w.cell? ⟨g, 0, none⟩ = some u) : (w.setCell ⟨g, 0, none⟩ v).cell? ⟨g, 0, none⟩ = some v := by
  unfold World.cell? at h
  unfold World.cell? World.setCell
  simp only [Array.getElem?_modify]
  cases hb : w.heap[g]? with
  | none => rw [hb] at h; simp at h
  | some o =>
    rw [hb] at h
    cases o with
    | cells cs t f =>
      simp only at h
      have hlt : 0 < cs.size := by
        by_cases h0 : 0 < cs.size
        · exact h0
        · exfalso
          have : cs[0]? = none := Array.getElem?_eq_none (by omega)
          simp [this] at h
      simp [hlt]
    | _ => simp at h
theorem cell_far {w w' : World} {g b i : Nat} {u : Value} (hg : w.grownBy w' (some g)) (h : w.cell? ⟨b, i, none⟩ = some u) (hne : b ≠ g) : w'.cell? ⟨b, i, none⟩ = some u :=
  (cell_same (hg.block b (rec_cell_lt h) (fun e => hne (by injection e)))).trans h
theorem Caught.far {w w' : World} {g g3 g2 bm : Nat} {x : Ptm} (h : Caught w g3 g2 bm x) (hg : w.grownBy w' (some g)) (h3 : g3 ≠ g) (h2 : g2 ≠ g) : Caught w' g3 g2 bm x :=
  ⟨cell_far hg h.c h3, ⟨(hg.block g2 h.p.lt (fun e => h2 (by injection e))).trans h.p.blk⟩⟩
theorem cells_apart {w : World} {a b : Nat} {u v : Value} (h : w.cell? ⟨a, 0, none⟩ = some u) (k : w.cell? ⟨b, 0, none⟩ = some v) (hne : u ≠ v) : a ≠ b := by
  rintro rfl
  rw [h] at k
  exact hne (by injection k)
/-- What stands once both functions are stored. -/
theorem look_end {w0 W : World} {g4 g5 g3 g2 k3 k2 gp bm : Nat} {x : Ptm} (hm : Caught W g3 g2 bm x) (hk : Caught W k3 k2 bm x) (hp : PatAt W gp x) (hs : IdSet W bm []) (z4 : W.cell? ⟨g4, 0, none⟩ = some .nilFunc) (z5 : W.cell? ⟨g5, 0, none⟩ = some .nilFunc)
    (f4 : W.frozen? ⟨g4, 0, none⟩ = false) (f5 : W.frozen? ⟨g5, 0, none⟩ = false) (hne : g4 ≠ g5) (hb : Below w0.heap.size w0 W) (l4 : w0.heap.size ≤ g4) (l5 : w0.heap.size ≤ g5) (lm : bm < w0.heap.size) :
    Below w0.heap.size w0 (W.setCell ⟨g4, 0, none⟩ (.func (.func 119) #[] #[.pointer (some ⟨g3, 0, none⟩), .pointer (some ⟨g2, 0, none⟩)])) ∧ (W.setCell ⟨g4, 0, none⟩ (.func (.func 119) #[] #[.pointer (some ⟨g3, 0, none⟩), .pointer (some ⟨g2, 0, none⟩)])).cell? ⟨g5, 0, none⟩ = some .nilFunc ∧ (W.setCell ⟨g4, 0, none⟩ (.func (.func 119) #[] #[.pointer (some ⟨g3, 0, none⟩), .pointer (some ⟨g2, 0, none⟩)])).frozen? ⟨g5, 0, none⟩ = false ∧ Below w0.heap.size w0 ((W.setCell ⟨g4, 0, none⟩ (.func (.func 119) #[] #[.pointer (some ⟨g3, 0, none⟩), .pointer (some ⟨g2, 0, none⟩)])).setCell ⟨g5, 0, none⟩ (.func (.func 121) #[] #[.pointer (some ⟨k3, 0, none⟩), .pointer (some ⟨k2, 0, none⟩)])) ∧ LookAt ((W.setCell ⟨g4, 0, none⟩ (.func (.func 119) #[] #[.pointer (some ⟨g3, 0, none⟩), .pointer (some ⟨g2, 0, none⟩)])).setCell ⟨g5, 0, none⟩ (.func (.func 121) #[] #[.pointer (some ⟨k3, 0, none⟩), .pointer (some ⟨k2, 0, none⟩)])) g4 gp g5 g3 g2 k3 k2 bm x [] := by
  obtain ⟨W1, hW1⟩ : ∃ W1, W1 = (W.setCell ⟨g4, 0, none⟩ (.func (.func 119) #[] #[.pointer (some ⟨g3, 0, none⟩), .pointer (some ⟨g2, 0, none⟩)])) := ⟨_, rfl⟩
  rw [← hW1]
  obtain ⟨W2, hW2⟩ : ∃ W2, W2 = (W1.setCell ⟨g5, 0, none⟩ (.func (.func 121) #[] #[.pointer (some ⟨k3, 0, none⟩), .pointer (some ⟨k2, 0, none⟩)])) := ⟨_, rfl⟩
  rw [← hW2]
  have e1 : W.grownBy W1 (some g4) := by rw [hW1]; exact grownBy_set W g4 0 _
  have e2 : W1.grownBy W2 (some g5) := by rw [hW2]; exact grownBy_set W1 g5 0 _
  have hz1 : W1.cell? ⟨g5, 0, none⟩ = some .nilFunc := cell_far e1 z5 (Ne.symm hne)
  have hb1 : Below w0.heap.size w0 W1 := hb.grown e1 hb.size (fun q hq => by simp only [Option.some.injEq] at hq; omega)
  have hb2 : Below w0.heap.size w0 W2 := hb1.grown e2 hb1.size (fun q hq => by simp only [Option.some.injEq] at hq; omega)
  have hf1 : W1.frozen? ⟨g5, 0, none⟩ = false := by
    rw [← f5]
    have h := e1.block g5 (rec_cell_lt z5) (fun e => hne (by injection e with e; exact e.symm))
    simp only [World.frozen?, h]
  have a1 := cells_apart hm.c z4 (by intro e; cases e)
  have a2 := cells_apart hm.p.c0 z4 (by intro e; cases e)
  have a3 := cells_apart hk.c z4 (by intro e; cases e)
  have a4 := cells_apart hk.p.c0 z4 (by intro e; cases e)
  have a5 := cells_apart hp.c0 z4 (by intro e; cases e)
  have b1 := cells_apart hm.c z5 (by intro e; cases e)
  have b2 := cells_apart hm.p.c0 z5 (by intro e; cases e)
  have b3 := cells_apart hk.c z5 (by intro e; cases e)
  have b4 := cells_apart hk.p.c0 z5 (by intro e; cases e)
  have b5 := cells_apart hp.c0 z5 (by intro e; cases e)
  have hs1 : IdSet W1 bm [] := hs.grown e1 (fun e => by injection e with e; exact hs.ne_cell z4 e.symm)
  refine ⟨hb1, hz1, hf1, hb2, ⟨?_, ?_, ?_, ?_, ?_, ?_⟩⟩
  · exact cell_far e2 (by rw [hW1]; exact set_cell_at z4) hne
  · rw [hW2]; exact set_cell_at hz1
  · exact ⟨(e2.block gp (by rw [hW1, show (W.setCell ⟨g4, 0, none⟩ (.func (.func 119) #[] #[.pointer (some ⟨g3, 0, none⟩), .pointer (some ⟨g2, 0, none⟩)])).heap.size = W.heap.size by simp [World.setCell]]; exact hp.lt) (fun e => b5 (by injection e))).trans ((e1.block gp hp.lt (fun e => a5 (by injection e))).trans hp.blk)⟩
  · exact (hm.far e1 a1 a2).far e2 b1 b2
  · exact (hk.far e1 a3 a4).far e2 b3 b4
  · exact hs1.grown e2 (fun e => by injection e with e; exact hs1.ne_cell hz1 e.symm)
/-- What looker leaves. -/
def LookLeft (x : Ptm) (w : World) (e : Ending) (w' : World) : Prop := ∃ gm gp gk g3 g2 k3 k2 bm, e = .returned (.func (.func 99) #[] #[.pointer (some ⟨gm, 0, none⟩), .pointer (some ⟨gp, 0, none⟩), .pointer (some ⟨gk, 0, none⟩)]) ∧ LookAt w' gm gp gk g3 g2 k3 k2 bm x [] ∧ Below w.heap.size w w' ∧ w.heap.size ≤ bm
set_option maxHeartbeats 8000000 in
set_option maxRecDepth 100000 in
theorem plooker_any (x : Ptm) (w : World) : Calls Tryz.prog 84 #[.agg #[.string x.name, .slice x.a1 x.deps.length x.c1, .slice x.a2 x.ops.length x.c2]] w (LookLeft x w) := by
  obtain ⟨hb0, hx0⟩ := pat_box w x
  have hmm := @run_makeMap Tryz.prog
  have hal : Below (w.alloc (.cells #[.string x.name, .slice x.a1 x.deps.length x.c1, .slice x.a2 x.ops.length x.c2] 35)).heap.size (w.alloc (.cells #[.string x.name, .slice x.a1 x.deps.length x.c1, .slice x.a2 x.ops.length x.c2] 35)) ((w.alloc (.cells #[.string x.name, .slice x.a1 x.deps.length x.c1, .slice x.a2 x.ops.length x.c2] 35)).alloc (.map #[] 0)) := (Below.refl _ _).alloc (Nat.le_refl _) _
  have HPs := Lib.hid (hx0.on hal)
  have HIs := Lib.hid (IdSet.made (w.alloc (.cells #[.string x.name, .slice x.a1 x.deps.length x.c1, .slice x.a2 x.ops.length x.c2] 35)))
  have HB := Lib.hid (hb0.trans (hal.mono hb0.size))
  have HGE : Hid (w.heap.size ≤ (w.alloc (.cells #[.string x.name, .slice x.a1 x.deps.length x.c1, .slice x.a2 x.ops.length x.c2] 35)).heap.size) := hb0.size
  have es : (w.alloc (.cells #[.string x.name, .slice x.a1 x.deps.length x.c1, .slice x.a2 x.ops.length x.c2] 35)).heap.size = w.heap.size + 1 := by simp
  rw [es] at HIs HGE
  clear hb0 hx0 hal es
  go_enter Tryz.func84, Tryz.ntmps84
  go_upto_region 2 with (fail)
  generalize ((w.alloc (.cells #[.string x.name, .slice x.a1 x.deps.length x.c1, .slice x.a2 x.ops.length x.c2] 35)).alloc (.map #[] 0)) = wb at *
  generalize w.heap.size + 1 = bm at *
  have HLM := Lib.hid HIs.out.lt
  have p0 := HPs.out.c0
  have p1 := HPs.out.c1
  have p2 := HPs.out.c2
  clear hmm
  -- @P1
  have HDR : Hid (Below wb.heap.size wb wb.drew) := (Below.refl _ _).drew
  refine wp_region_noPanic ?_
  refine wp_region_held_drew (S := fun W => Below wb.heap.size wb W) (by kernel_rfl) HDR.out (fun hHeld => ?_)
  refine wpAnyH_take (i := 0) (oi := { dst := some 7, op := _, type := _, pos := _, after := _, guard := _ }) (v := .agg #[.string x.name, .slice x.a1 x.deps.length x.c1, .slice x.a2 x.ops.length x.c2]) rfl (by kernel_rfl) (by kernel_rfl) (by kernel_rfl) (fun _ _ _ h => h) (Or.inl ⟨by rfl, fun w' hSw => ?_⟩) (by assumption) ?_
  · (have q0 := (hSw.cell (rec_cell_lt p0)).trans p0; have q1 := (hSw.cell (rec_cell_lt p1)).trans p1; have q2 := (hSw.cell (rec_cell_lt p2)).trans p2; go_simp)
  try simp only [Act.put, List.setIfInBounds_toArray, List.set_cons_zero, List.set_cons_succ]
  refine wpAnyH_take (i := 1) (oi := { dst := some 8, op := _, type := _, pos := _, after := _, guard := _ }) (v := .map (some bm)) rfl (by kernel_rfl) (by kernel_rfl) (by kernel_rfl) (fun _ _ _ h => h) (Or.inl ⟨by rfl, fun w' hSw => ?_⟩) (by assumption) ?_
  · ((try dsimp only at hSw); go_simp)
  try simp only [Act.put, List.setIfInBounds_toArray, List.set_cons_zero, List.set_cons_succ]
  refine wpAnyH_take (i := 3) (oi := { dst := some 10, op := _, type := _, pos := _, after := _, guard := _ }) (v := .agg #[.string x.name, .slice x.a1 x.deps.length x.c1, .slice x.a2 x.ops.length x.c2]) rfl (by kernel_rfl) (by kernel_rfl) (by kernel_rfl) (fun _ _ _ h => h) (Or.inl ⟨by rfl, fun w' hSw => ?_⟩) (by assumption) ?_
  · (have q0 := (hSw.cell (rec_cell_lt p0)).trans p0; have q1 := (hSw.cell (rec_cell_lt p1)).trans p1; have q2 := (hSw.cell (rec_cell_lt p2)).trans p2; go_simp)
  try simp only [Act.put, List.setIfInBounds_toArray, List.set_cons_zero, List.set_cons_succ]
  refine wpAnyH_take (i := 4) (oi := { dst := some 11, op := _, type := _, pos := _, after := _, guard := _ }) (v := .map (some bm)) rfl (by kernel_rfl) (by kernel_rfl) (by kernel_rfl) (fun _ _ _ h => h) (Or.inl ⟨by rfl, fun w' hSw => ?_⟩) (by assumption) ?_
  · ((try dsimp only at hSw); go_simp)
  try simp only [Act.put, List.setIfInBounds_toArray, List.set_cons_zero, List.set_cons_succ]
  clear p0 p1 p2
  have XB0 := Lib.hid HDR.out
  have hbd : Below wb.heap.size wb wb.drew := HDR.out
  replace HPs := Lib.hid (HPs.out.on hbd)
  replace HIs := Lib.hid (HIs.out.on hbd)
  clear hbd
  generalize hwD : wb.drew = wD at *
  clear hwD HDR
  refine wpAnyH_ready (rs := [2, 6, 7]) (by kernel_rfl) (by simp) ?_
  refine (AllReadyH.cons rfl (fun K hK => ?_) (AllReadyH.cons rfl (fun K hK => ?_) (AllReadyH.cons rfl (fun K hK => ?_) AllReadyH.nil)))
  · go_simp
    go_at_call 97
    refine (pmaker_any x bm _).mono ?_
    rintro e wc1 ⟨g3, g2, rfl, hc, hb⟩
    have HM := Lib.hid hc
    have XC1 := Lib.hid (XB0.out.trans (hb.mono XB0.out.size))
    replace HPs := Lib.hid (HPs.out.on hb)
    replace HIs := Lib.hid (HIs.out.on hb)
    clear hc hb
    refine hK.out _ _ XC1.out (fun hHeld2 => ?_)
    clear hK K hHeld
    try simp only [Act.put, List.setIfInBounds_toArray, List.set_cons_zero, List.set_cons_succ]
    refine wpAnyH_ready (rs := [5, 6, 7]) (by kernel_rfl) (by simp) ?_
    refine (AllReadyH.cons rfl (fun K hK => ?_) (AllReadyH.cons rfl (fun K hK => ?_) (AllReadyH.cons rfl (fun K hK => ?_) AllReadyH.nil)))
    · go_simp
      go_at_call 98
      refine (pknower_any x bm _).mono ?_
      rintro e wc2 ⟨k3, k2, rfl, hc, hb⟩
      have HK := Lib.hid hc
      have XC2 := Lib.hid (XC1.out.trans (hb.mono XC1.out.size))
      replace HPs := Lib.hid (HPs.out.on hb)
      replace HIs := Lib.hid (HIs.out.on hb)
      replace HM := Lib.hid (HM.out.on hb)
      clear hc hb
      refine hK.out _ _ XC2.out (fun hHeld5 => ?_)
      clear hK K hHeld2
      try simp only [Act.put, List.setIfInBounds_toArray, List.set_cons_zero, List.set_cons_succ]
      refine wpAnyH_ready (rs := [6, 7]) (by kernel_rfl) (by simp) ?_
      refine (AllReadyH.cons rfl (fun K hK => ?_) (AllReadyH.cons rfl (fun K hK => ?_) AllReadyH.nil))
      · have hb : Below wc2.heap.size wc2 (wc2.alloc (.cells #[.nilFunc] 115)) := (Below.refl _ _).alloc (Nat.le_refl _) _
        have XA3 := Lib.hid (XC2.out.trans (hb.mono XC2.out.size))
        replace HPs := Lib.hid (HPs.out.on hb)
        replace HIs := Lib.hid (HIs.out.on hb)
        replace HM := Lib.hid (HM.out.on hb)
        replace HK := Lib.hid (HK.out.on hb)
        have HZ4 : Hid ((wc2.alloc (.cells #[.nilFunc] 115)).cell? ⟨wc2.heap.size, 0, none⟩ = some .nilFunc) := by show _ = _; rw [World.cell?_alloc_new]; rfl
        have HF4 : Hid ((wc2.alloc (.cells #[.nilFunc] 115)).frozen? ⟨wc2.heap.size, 0, none⟩ = false) := by
          show _ = _
          have h := heap_alloc_new wc2 (.cells #[.nilFunc] 115)
          simp only [World.frozen?, h]
          rfl
        have HL4 : Hid (wb.heap.size ≤ wc2.heap.size) := XC2.out.size
        clear hb
        go_simp
        refine hK.out _ _ XA3.out (fun hHeld6 => ?_)
        clear hK K hHeld5
        try simp only [Act.put, List.setIfInBounds_toArray, List.set_cons_zero, List.set_cons_succ]
        generalize hwn : (wc2.alloc (.cells #[.nilFunc] 115)) = wa3 at *
        clear hwn
        refine wpAnyH_ready (rs := [7]) (by kernel_rfl) (by simp) ?_
        refine (AllReadyH.cons rfl (fun K hK => ?_) AllReadyH.nil)
        · have HNE : Hid (wc2.heap.size ≠ wa3.heap.size) := by show _ ≠ _; have h1 := rec_cell_lt HZ4.out; omega
          have hb : Below wa3.heap.size wa3 (wa3.alloc (.cells #[.nilFunc] 115)) := (Below.refl _ _).alloc (Nat.le_refl _) _
          have XA4 := Lib.hid (XA3.out.trans (hb.mono XA3.out.size))
          replace HPs := Lib.hid (HPs.out.on hb)
          replace HIs := Lib.hid (HIs.out.on hb)
          replace HM := Lib.hid (HM.out.on hb)
          replace HK := Lib.hid (HK.out.on hb)
          replace HF4 := Lib.hid ((frozen_below hb (rec_cell_lt HZ4.out)).trans HF4.out)
          replace HZ4 := Lib.hid ((hb.cell (rec_cell_lt HZ4.out)).trans HZ4.out)
          have HZ5 : Hid ((wa3.alloc (.cells #[.nilFunc] 115)).cell? ⟨wa3.heap.size, 0, none⟩ = some .nilFunc) := by show _ = _; rw [World.cell?_alloc_new]; rfl
          have HF5 : Hid ((wa3.alloc (.cells #[.nilFunc] 115)).frozen? ⟨wa3.heap.size, 0, none⟩ = false) := by
            show _ = _
            have h := heap_alloc_new wa3 (.cells #[.nilFunc] 115)
            simp only [World.frozen?, h]
            rfl
          have HL5 : Hid (wb.heap.size ≤ wa3.heap.size) := XA3.out.size
          clear hb
          go_simp
          refine hK.out _ _ XA4.out (fun hHeld7 => ?_)
          clear hK K hHeld6
          try simp only [Act.put, List.setIfInBounds_toArray, List.set_cons_zero, List.set_cons_succ]
          generalize hwn : (wa3.alloc (.cells #[.nilFunc] 115)) = wa4 at *
          clear hwn
          have HE := Lib.hid (look_end HM.out HK.out HPs.out HIs.out HZ4.out HZ5.out HF4.out HF5.out HNE.out XA4.out HL4.out HL5.out HLM.out)
          refine wpAnyH_ready (rs := [8]) (by kernel_rfl) (by simp) ?_
          refine AllReadyH.cons rfl (fun K hK => ?_) AllReadyH.nil
          have m0 := HZ4.out
          have mf0 := HF4.out
          go_simp
          refine hK.out _ _ (HE.out.1) (fun hHeld8 => ?_)
          clear hK K hHeld7 m0 mf0
          try simp only [Act.put, List.setIfInBounds_toArray, List.set_cons_zero, List.set_cons_succ]
          have m0 := HE.out.2.1
          have mf0 := HE.out.2.2.1
          generalize hwn : (wa4.setCell ⟨wc2.heap.size, 0, none⟩ (.func (.func 119) #[] #[.pointer (some ⟨g3, 0, none⟩), .pointer (some ⟨g2, 0, none⟩)])) = ws at *
          clear hwn
          refine wpAnyH_ready (rs := [9]) (by kernel_rfl) (by simp) ?_
          refine AllReadyH.cons rfl (fun K hK => ?_) AllReadyH.nil
          go_simp
          refine hK.out _ _ (HE.out.2.2.2.1) (fun hHeld9 => ?_)
          clear hK K hHeld8 m0 mf0
          try simp only [Act.put, List.setIfInBounds_toArray, List.set_cons_zero, List.set_cons_succ]
          generalize hwn : (ws.setCell ⟨wa3.heap.size, 0, none⟩ (.func (.func 121) #[] #[.pointer (some ⟨k3, 0, none⟩), .pointer (some ⟨k2, 0, none⟩)])) = wt at *
          clear hwn
          refine wpAnyH_done (by kernel_rfl) ?_ _
          refine NoPanic.normal ?_
          go_wp2
          go_ret
          exact ⟨_, _, _, _, _, _, _, _, rfl, HE.out.2.2.2.2, HB.out.trans (HE.out.2.2.2.1.mono HB.out.size), HGE.out⟩
      · have hb : Below wc2.heap.size wc2 (wc2.alloc (.cells #[.nilFunc] 115)) := (Below.refl _ _).alloc (Nat.le_refl _) _
        have XA5 := Lib.hid (XC2.out.trans (hb.mono XC2.out.size))
        replace HPs := Lib.hid (HPs.out.on hb)
        replace HIs := Lib.hid (HIs.out.on hb)
        replace HM := Lib.hid (HM.out.on hb)
        replace HK := Lib.hid (HK.out.on hb)
        have HZ5 : Hid ((wc2.alloc (.cells #[.nilFunc] 115)).cell? ⟨wc2.heap.size, 0, none⟩ = some .nilFunc) := by show _ = _; rw [World.cell?_alloc_new]; rfl
        have HF5 : Hid ((wc2.alloc (.cells #[.nilFunc] 115)).frozen? ⟨wc2.heap.size, 0, none⟩ = false) := by
          show _ = _
          have h := heap_alloc_new wc2 (.cells #[.nilFunc] 115)
          simp only [World.frozen?, h]
          rfl
        have HL5 : Hid (wb.heap.size ≤ wc2.heap.size) := XC2.out.size
        clear hb
        go_simp
        refine hK.out _ _ XA5.out (fun hHeld7 => ?_)
        clear hK K hHeld5
        try simp only [Act.put, List.setIfInBounds_toArray, List.set_cons_zero, List.set_cons_succ]
        generalize hwn : (wc2.alloc (.cells #[.nilFunc] 115)) = wa5 at *
        clear hwn
        refine wpAnyH_ready (rs := [6]) (by kernel_rfl) (by simp) ?_
        refine (AllReadyH.cons rfl (fun K hK => ?_) AllReadyH.nil)
        · have HNE : Hid (wa5.heap.size ≠ wc2.heap.size) := by show _ ≠ _; have h1 := rec_cell_lt HZ5.out; omega
          have hb : Below wa5.heap.size wa5 (wa5.alloc (.cells #[.nilFunc] 115)) := (Below.refl _ _).alloc (Nat.le_refl _) _
          have XA6 := Lib.hid (XA5.out.trans (hb.mono XA5.out.size))
          replace HPs := Lib.hid (HPs.out.on hb)
          replace HIs := Lib.hid (HIs.out.on hb)
          replace HM := Lib.hid (HM.out.on hb)
          replace HK := Lib.hid (HK.out.on hb)
          replace HF5 := Lib.hid ((frozen_below hb (rec_cell_lt HZ5.out)).trans HF5.out)
          replace HZ5 := Lib.hid ((hb.cell (rec_cell_lt HZ5.out)).trans HZ5.out)
          have HZ4 : Hid ((wa5.alloc (.cells #[.nilFunc] 115)).cell? ⟨wa5.heap.size, 0, none⟩ = some .nilFunc) := by show _ = _; rw [World.cell?_alloc_new]; rfl
          have HF4 : Hid ((wa5.alloc (.cells #[.nilFunc] 115)).frozen? ⟨wa5.heap.size, 0, none⟩ = false) := by
            show _ = _
            have h := heap_alloc_new wa5 (.cells #[.nilFunc] 115)
            simp only [World.frozen?, h]
            rfl
          have HL4 : Hid (wb.heap.size ≤ wa5.heap.size) := XA5.out.size
          clear hb
          go_simp
          refine hK.out _ _ XA6.out (fun hHeld6 => ?_)
          clear hK K hHeld7
          try simp only [Act.put, List.setIfInBounds_toArray, List.set_cons_zero, List.set_cons_succ]
          generalize hwn : (wa5.alloc (.cells #[.nilFunc] 115)) = wa6 at *
          clear hwn
          have HE := Lib.hid (look_end HM.out HK.out HPs.out HIs.out HZ4.out HZ5.out HF4.out HF5.out HNE.out XA6.out HL4.out HL5.out HLM.out)
          refine wpAnyH_ready (rs := [8]) (by kernel_rfl) (by simp) ?_
          refine AllReadyH.cons rfl (fun K hK => ?_) AllReadyH.nil
          have m0 := HZ4.out
          have mf0 := HF4.out
          go_simp
          refine hK.out _ _ (HE.out.1) (fun hHeld8 => ?_)
          clear hK K hHeld6 m0 mf0
          try simp only [Act.put, List.setIfInBounds_toArray, List.set_cons_zero, List.set_cons_succ]
          have m0 := HE.out.2.1
          have mf0 := HE.out.2.2.1
          generalize hwn : (wa6.setCell ⟨wa5.heap.size, 0, none⟩ (.func (.func 119) #[] #[.pointer (some ⟨g3, 0, none⟩), .pointer (some ⟨g2, 0, none⟩)])) = ws at *
          clear hwn
          refine wpAnyH_ready (rs := [9]) (by kernel_rfl) (by simp) ?_
          refine AllReadyH.cons rfl (fun K hK => ?_) AllReadyH.nil
          go_simp
          refine hK.out _ _ (HE.out.2.2.2.1) (fun hHeld9 => ?_)
          clear hK K hHeld8 m0 mf0
          try simp only [Act.put, List.setIfInBounds_toArray, List.set_cons_zero, List.set_cons_succ]
          generalize hwn : (ws.setCell ⟨wc2.heap.size, 0, none⟩ (.func (.func 121) #[] #[.pointer (some ⟨k3, 0, none⟩), .pointer (some ⟨k2, 0, none⟩)])) = wt at *
          clear hwn
          refine wpAnyH_done (by kernel_rfl) ?_ _
          refine NoPanic.normal ?_
          go_wp2
          go_ret
          exact ⟨_, _, _, _, _, _, _, _, rfl, HE.out.2.2.2.2, HB.out.trans (HE.out.2.2.2.1.mono HB.out.size), HGE.out⟩
    · have hb : Below wc1.heap.size wc1 (wc1.alloc (.cells #[.nilFunc] 115)) := (Below.refl _ _).alloc (Nat.le_refl _) _
      have XA7 := Lib.hid (XC1.out.trans (hb.mono XC1.out.size))
      replace HPs := Lib.hid (HPs.out.on hb)
      replace HIs := Lib.hid (HIs.out.on hb)
      replace HM := Lib.hid (HM.out.on hb)
      have HZ4 : Hid ((wc1.alloc (.cells #[.nilFunc] 115)).cell? ⟨wc1.heap.size, 0, none⟩ = some .nilFunc) := by show _ = _; rw [World.cell?_alloc_new]; rfl
      have HF4 : Hid ((wc1.alloc (.cells #[.nilFunc] 115)).frozen? ⟨wc1.heap.size, 0, none⟩ = false) := by
        show _ = _
        have h := heap_alloc_new wc1 (.cells #[.nilFunc] 115)
        simp only [World.frozen?, h]
        rfl
      have HL4 : Hid (wb.heap.size ≤ wc1.heap.size) := XC1.out.size
      clear hb
      go_simp
      refine hK.out _ _ XA7.out (fun hHeld6 => ?_)
      clear hK K hHeld2
      try simp only [Act.put, List.setIfInBounds_toArray, List.set_cons_zero, List.set_cons_succ]
      generalize hwn : (wc1.alloc (.cells #[.nilFunc] 115)) = wa7 at *
      clear hwn
      refine wpAnyH_ready (rs := [5, 7]) (by kernel_rfl) (by simp) ?_
      refine (AllReadyH.cons rfl (fun K hK => ?_) (AllReadyH.cons rfl (fun K hK => ?_) AllReadyH.nil))
      · go_simp
        go_at_call 98
        refine (pknower_any x bm _).mono ?_
        rintro e wc8 ⟨k3, k2, rfl, hc, hb⟩
        have HK := Lib.hid hc
        have XC8 := Lib.hid (XA7.out.trans (hb.mono XA7.out.size))
        replace HPs := Lib.hid (HPs.out.on hb)
        replace HIs := Lib.hid (HIs.out.on hb)
        replace HM := Lib.hid (HM.out.on hb)
        replace HF4 := Lib.hid ((frozen_below hb (rec_cell_lt HZ4.out)).trans HF4.out)
        replace HZ4 := Lib.hid ((hb.cell (rec_cell_lt HZ4.out)).trans HZ4.out)
        clear hc hb
        refine hK.out _ _ XC8.out (fun hHeld5 => ?_)
        clear hK K hHeld6
        try simp only [Act.put, List.setIfInBounds_toArray, List.set_cons_zero, List.set_cons_succ]
        refine wpAnyH_ready (rs := [7]) (by kernel_rfl) (by simp) ?_
        refine (AllReadyH.cons rfl (fun K hK => ?_) AllReadyH.nil)
        · have HNE : Hid (wc1.heap.size ≠ wc8.heap.size) := by show _ ≠ _; have h1 := rec_cell_lt HZ4.out; omega
          have hb : Below wc8.heap.size wc8 (wc8.alloc (.cells #[.nilFunc] 115)) := (Below.refl _ _).alloc (Nat.le_refl _) _
          have XA9 := Lib.hid (XC8.out.trans (hb.mono XC8.out.size))
          replace HPs := Lib.hid (HPs.out.on hb)
          replace HIs := Lib.hid (HIs.out.on hb)
          replace HM := Lib.hid (HM.out.on hb)
          replace HF4 := Lib.hid ((frozen_below hb (rec_cell_lt HZ4.out)).trans HF4.out)
          replace HZ4 := Lib.hid ((hb.cell (rec_cell_lt HZ4.out)).trans HZ4.out)
          replace HK := Lib.hid (HK.out.on hb)
          have HZ5 : Hid ((wc8.alloc (.cells #[.nilFunc] 115)).cell? ⟨wc8.heap.size, 0, none⟩ = some .nilFunc) := by show _ = _; rw [World.cell?_alloc_new]; rfl
          have HF5 : Hid ((wc8.alloc (.cells #[.nilFunc] 115)).frozen? ⟨wc8.heap.size, 0, none⟩ = false) := by
            show _ = _
            have h := heap_alloc_new wc8 (.cells #[.nilFunc] 115)
            simp only [World.frozen?, h]
            rfl
          have HL5 : Hid (wb.heap.size ≤ wc8.heap.size) := XC8.out.size
          clear hb
          go_simp
          refine hK.out _ _ XA9.out (fun hHeld7 => ?_)
          clear hK K hHeld5
          try simp only [Act.put, List.setIfInBounds_toArray, List.set_cons_zero, List.set_cons_succ]
          generalize hwn : (wc8.alloc (.cells #[.nilFunc] 115)) = wa9 at *
          clear hwn
          have HE := Lib.hid (look_end HM.out HK.out HPs.out HIs.out HZ4.out HZ5.out HF4.out HF5.out HNE.out XA9.out HL4.out HL5.out HLM.out)
          refine wpAnyH_ready (rs := [8]) (by kernel_rfl) (by simp) ?_
          refine AllReadyH.cons rfl (fun K hK => ?_) AllReadyH.nil
          have m0 := HZ4.out
          have mf0 := HF4.out
          go_simp
          refine hK.out _ _ (HE.out.1) (fun hHeld8 => ?_)
          clear hK K hHeld7 m0 mf0
          try simp only [Act.put, List.setIfInBounds_toArray, List.set_cons_zero, List.set_cons_succ]
          have m0 := HE.out.2.1
          have mf0 := HE.out.2.2.1
          generalize hwn : (wa9.setCell ⟨wc1.heap.size, 0, none⟩ (.func (.func 119) #[] #[.pointer (some ⟨g3, 0, none⟩), .pointer (some ⟨g2, 0, none⟩)])) = ws at *
          clear hwn
          refine wpAnyH_ready (rs := [9]) (by kernel_rfl) (by simp) ?_
          refine AllReadyH.cons rfl (fun K hK => ?_) AllReadyH.nil
          go_simp
          refine hK.out _ _ (HE.out.2.2.2.1) (fun hHeld9 => ?_)
          clear hK K hHeld8 m0 mf0
          try simp only [Act.put, List.setIfInBounds_toArray, List.set_cons_zero, List.set_cons_succ]
          generalize hwn : (ws.setCell ⟨wc8.heap.size, 0, none⟩ (.func (.func 121) #[] #[.pointer (some ⟨k3, 0, none⟩), .pointer (some ⟨k2, 0, none⟩)])) = wt at *
          clear hwn
          refine wpAnyH_done (by kernel_rfl) ?_ _
          refine NoPanic.normal ?_
          go_wp2
          go_ret
          exact ⟨_, _, _, _, _, _, _, _, rfl, HE.out.2.2.2.2, HB.out.trans (HE.out.2.2.2.1.mono HB.out.size), HGE.out⟩
      · have HNE : Hid (wc1.heap.size ≠ wa7.heap.size) := by show _ ≠ _; have h1 := rec_cell_lt HZ4.out; omega
        have hb : Below wa7.heap.size wa7 (wa7.alloc (.cells #[.nilFunc] 115)) := (Below.refl _ _).alloc (Nat.le_refl _) _
        have XA10 := Lib.hid (XA7.out.trans (hb.mono XA7.out.size))
        replace HPs := Lib.hid (HPs.out.on hb)
        replace HIs := Lib.hid (HIs.out.on hb)
        replace HM := Lib.hid (HM.out.on hb)
        replace HF4 := Lib.hid ((frozen_below hb (rec_cell_lt HZ4.out)).trans HF4.out)
        replace HZ4 := Lib.hid ((hb.cell (rec_cell_lt HZ4.out)).trans HZ4.out)
        have HZ5 : Hid ((wa7.alloc (.cells #[.nilFunc] 115)).cell? ⟨wa7.heap.size, 0, none⟩ = some .nilFunc) := by show _ = _; rw [World.cell?_alloc_new]; rfl
        have HF5 : Hid ((wa7.alloc (.cells #[.nilFunc] 115)).frozen? ⟨wa7.heap.size, 0, none⟩ = false) := by
          show _ = _
          have h := heap_alloc_new wa7 (.cells #[.nilFunc] 115)
          simp only [World.frozen?, h]
          rfl
        have HL5 : Hid (wb.heap.size ≤ wa7.heap.size) := XA7.out.size
        clear hb
        go_simp
        refine hK.out _ _ XA10.out (fun hHeld7 => ?_)
        clear hK K hHeld6
        try simp only [Act.put, List.setIfInBounds_toArray, List.set_cons_zero, List.set_cons_succ]
        generalize hwn : (wa7.alloc (.cells #[.nilFunc] 115)) = wa10 at *
        clear hwn
        refine wpAnyH_ready (rs := [5]) (by kernel_rfl) (by simp) ?_
        refine (AllReadyH.cons rfl (fun K hK => ?_) AllReadyH.nil)
        · go_simp
          go_at_call 98
          refine (pknower_any x bm _).mono ?_
          rintro e wc11 ⟨k3, k2, rfl, hc, hb⟩
          have HK := Lib.hid hc
          have XC11 := Lib.hid (XA10.out.trans (hb.mono XA10.out.size))
          replace HPs := Lib.hid (HPs.out.on hb)
          replace HIs := Lib.hid (HIs.out.on hb)
          replace HM := Lib.hid (HM.out.on hb)
          replace HF4 := Lib.hid ((frozen_below hb (rec_cell_lt HZ4.out)).trans HF4.out)
          replace HZ4 := Lib.hid ((hb.cell (rec_cell_lt HZ4.out)).trans HZ4.out)
          replace HF5 := Lib.hid ((frozen_below hb (rec_cell_lt HZ5.out)).trans HF5.out)
          replace HZ5 := Lib.hid ((hb.cell (rec_cell_lt HZ5.out)).trans HZ5.out)
          clear hc hb
          refine hK.out _ _ XC11.out (fun hHeld5 => ?_)
          clear hK K hHeld7
          try simp only [Act.put, List.setIfInBounds_toArray, List.set_cons_zero, List.set_cons_succ]
          have HE := Lib.hid (look_end HM.out HK.out HPs.out HIs.out HZ4.out HZ5.out HF4.out HF5.out HNE.out XC11.out HL4.out HL5.out HLM.out)
          refine wpAnyH_ready (rs := [8]) (by kernel_rfl) (by simp) ?_
          refine AllReadyH.cons rfl (fun K hK => ?_) AllReadyH.nil
          have m0 := HZ4.out
          have mf0 := HF4.out
          go_simp
          refine hK.out _ _ (HE.out.1) (fun hHeld8 => ?_)
          clear hK K hHeld5 m0 mf0
          try simp only [Act.put, List.setIfInBounds_toArray, List.set_cons_zero, List.set_cons_succ]
          have m0 := HE.out.2.1
          have mf0 := HE.out.2.2.1
          generalize hwn : (wc11.setCell ⟨wc1.heap.size, 0, none⟩ (.func (.func 119) #[] #[.pointer (some ⟨g3, 0, none⟩), .pointer (some ⟨g2, 0, none⟩)])) = ws at *
          clear hwn
          refine wpAnyH_ready (rs := [9]) (by kernel_rfl) (by simp) ?_
          refine AllReadyH.cons rfl (fun K hK => ?_) AllReadyH.nil
          go_simp
          refine hK.out _ _ (HE.out.2.2.2.1) (fun hHeld9 => ?_)
          clear hK K hHeld8 m0 mf0
          try simp only [Act.put, List.setIfInBounds_toArray, List.set_cons_zero, List.set_cons_succ]
          generalize hwn : (ws.setCell ⟨wa7.heap.size, 0, none⟩ (.func (.func 121) #[] #[.pointer (some ⟨k3, 0, none⟩), .pointer (some ⟨k2, 0, none⟩)])) = wt at *
          clear hwn
          refine wpAnyH_done (by kernel_rfl) ?_ _
          refine NoPanic.normal ?_
          go_wp2
          go_ret
          exact ⟨_, _, _, _, _, _, _, _, rfl, HE.out.2.2.2.2, HB.out.trans (HE.out.2.2.2.1.mono HB.out.size), HGE.out⟩
    · have hb : Below wc1.heap.size wc1 (wc1.alloc (.cells #[.nilFunc] 115)) := (Below.refl _ _).alloc (Nat.le_refl _) _
      have XA12 := Lib.hid (XC1.out.trans (hb.mono XC1.out.size))
      replace HPs := Lib.hid (HPs.out.on hb)
      replace HIs := Lib.hid (HIs.out.on hb)
      replace HM := Lib.hid (HM.out.on hb)
      have HZ5 : Hid ((wc1.alloc (.cells #[.nilFunc] 115)).cell? ⟨wc1.heap.size, 0, none⟩ = some .nilFunc) := by show _ = _; rw [World.cell?_alloc_new]; rfl
      have HF5 : Hid ((wc1.alloc (.cells #[.nilFunc] 115)).frozen? ⟨wc1.heap.size, 0, none⟩ = false) := by
        show _ = _
        have h := heap_alloc_new wc1 (.cells #[.nilFunc] 115)
        simp only [World.frozen?, h]
        rfl
      have HL5 : Hid (wb.heap.size ≤ wc1.heap.size) := XC1.out.size
      clear hb
      go_simp
      refine hK.out _ _ XA12.out (fun hHeld7 => ?_)
      clear hK K hHeld2
      try simp only [Act.put, List.setIfInBounds_toArray, List.set_cons_zero, List.set_cons_succ]
      generalize hwn : (wc1.alloc (.cells #[.nilFunc] 115)) = wa12 at *
      clear hwn
      refine wpAnyH_ready (rs := [5, 6]) (by kernel_rfl) (by simp) ?_
      refine (AllReadyH.cons rfl (fun K hK => ?_) (AllReadyH.cons rfl (fun K hK => ?_) AllReadyH.nil))
      · go_simp
        go_at_call 98
        refine (pknower_any x bm _).mono ?_
        rintro e wc13 ⟨k3, k2, rfl, hc, hb⟩
        have HK := Lib.hid hc
        have XC13 := Lib.hid (XA12.out.trans (hb.mono XA12.out.size))
        replace HPs := Lib.hid (HPs.out.on hb)
        replace HIs := Lib.hid (HIs.out.on hb)
        replace HM := Lib.hid (HM.out.on hb)
        replace HF5 := Lib.hid ((frozen_below hb (rec_cell_lt HZ5.out)).trans HF5.out)
        replace HZ5 := Lib.hid ((hb.cell (rec_cell_lt HZ5.out)).trans HZ5.out)
        clear hc hb
        refine hK.out _ _ XC13.out (fun hHeld5 => ?_)
        clear hK K hHeld7
        try simp only [Act.put, List.setIfInBounds_toArray, List.set_cons_zero, List.set_cons_succ]
        refine wpAnyH_ready (rs := [6]) (by kernel_rfl) (by simp) ?_
        refine (AllReadyH.cons rfl (fun K hK => ?_) AllReadyH.nil)
        · have HNE : Hid (wc13.heap.size ≠ wc1.heap.size) := by show _ ≠ _; have h1 := rec_cell_lt HZ5.out; omega
          have hb : Below wc13.heap.size wc13 (wc13.alloc (.cells #[.nilFunc] 115)) := (Below.refl _ _).alloc (Nat.le_refl _) _
          have XA14 := Lib.hid (XC13.out.trans (hb.mono XC13.out.size))
          replace HPs := Lib.hid (HPs.out.on hb)
          replace HIs := Lib.hid (HIs.out.on hb)
          replace HM := Lib.hid (HM.out.on hb)
          replace HF5 := Lib.hid ((frozen_below hb (rec_cell_lt HZ5.out)).trans HF5.out)
          replace HZ5 := Lib.hid ((hb.cell (rec_cell_lt HZ5.out)).trans HZ5.out)
          replace HK := Lib.hid (HK.out.on hb)
          have HZ4 : Hid ((wc13.alloc (.cells #[.nilFunc] 115)).cell? ⟨wc13.heap.size, 0, none⟩ = some .nilFunc) := by show _ = _; rw [World.cell?_alloc_new]; rfl
          have HF4 : Hid ((wc13.alloc (.cells #[.nilFunc] 115)).frozen? ⟨wc13.heap.size, 0, none⟩ = false) := by
            show _ = _
            have h := heap_alloc_new wc13 (.cells #[.nilFunc] 115)
            simp only [World.frozen?, h]
            rfl
          have HL4 : Hid (wb.heap.size ≤ wc13.heap.size) := XC13.out.size
          clear hb
          go_simp
          refine hK.out _ _ XA14.out (fun hHeld6 => ?_)
          clear hK K hHeld5
          try simp only [Act.put, List.setIfInBounds_toArray, List.set_cons_zero, List.set_cons_succ]
          generalize hwn : (wc13.alloc (.cells #[.nilFunc] 115)) = wa14 at *
          clear hwn
          have HE := Lib.hid (look_end HM.out HK.out HPs.out HIs.out HZ4.out HZ5.out HF4.out HF5.out HNE.out XA14.out HL4.out HL5.out HLM.out)
          refine wpAnyH_ready (rs := [8]) (by kernel_rfl) (by simp) ?_
          refine AllReadyH.cons rfl (fun K hK => ?_) AllReadyH.nil
          have m0 := HZ4.out
          have mf0 := HF4.out
          go_simp
          refine hK.out _ _ (HE.out.1) (fun hHeld8 => ?_)
          clear hK K hHeld6 m0 mf0
          try simp only [Act.put, List.setIfInBounds_toArray, List.set_cons_zero, List.set_cons_succ]
          have m0 := HE.out.2.1
          have mf0 := HE.out.2.2.1
          generalize hwn : (wa14.setCell ⟨wc13.heap.size, 0, none⟩ (.func (.func 119) #[] #[.pointer (some ⟨g3, 0, none⟩), .pointer (some ⟨g2, 0, none⟩)])) = ws at *
          clear hwn
          refine wpAnyH_ready (rs := [9]) (by kernel_rfl) (by simp) ?_
          refine AllReadyH.cons rfl (fun K hK => ?_) AllReadyH.nil
          go_simp
          refine hK.out _ _ (HE.out.2.2.2.1) (fun hHeld9 => ?_)
          clear hK K hHeld8 m0 mf0
          try simp only [Act.put, List.setIfInBounds_toArray, List.set_cons_zero, List.set_cons_succ]
          generalize hwn : (ws.setCell ⟨wc1.heap.size, 0, none⟩ (.func (.func 121) #[] #[.pointer (some ⟨k3, 0, none⟩), .pointer (some ⟨k2, 0, none⟩)])) = wt at *
          clear hwn
          refine wpAnyH_done (by kernel_rfl) ?_ _
          refine NoPanic.normal ?_
          go_wp2
          go_ret
          exact ⟨_, _, _, _, _, _, _, _, rfl, HE.out.2.2.2.2, HB.out.trans (HE.out.2.2.2.1.mono HB.out.size), HGE.out⟩
      · have HNE : Hid (wa12.heap.size ≠ wc1.heap.size) := by show _ ≠ _; have h1 := rec_cell_lt HZ5.out; omega
        have hb : Below wa12.heap.size wa12 (wa12.alloc (.cells #[.nilFunc] 115)) := (Below.refl _ _).alloc (Nat.le_refl _) _
        have XA15 := Lib.hid (XA12.out.trans (hb.mono XA12.out.size))
        replace HPs := Lib.hid (HPs.out.on hb)
        replace HIs := Lib.hid (HIs.out.on hb)
        replace HM := Lib.hid (HM.out.on hb)
        replace HF5 := Lib.hid ((frozen_below hb (rec_cell_lt HZ5.out)).trans HF5.out)
        replace HZ5 := Lib.hid ((hb.cell (rec_cell_lt HZ5.out)).trans HZ5.out)
        have HZ4 : Hid ((wa12.alloc (.cells #[.nilFunc] 115)).cell? ⟨wa12.heap.size, 0, none⟩ = some .nilFunc) := by show _ = _; rw [World.cell?_alloc_new]; rfl
        have HF4 : Hid ((wa12.alloc (.cells #[.nilFunc] 115)).frozen? ⟨wa12.heap.size, 0, none⟩ = false) := by
          show _ = _
          have h := heap_alloc_new wa12 (.cells #[.nilFunc] 115)
          simp only [World.frozen?, h]
          rfl
        have HL4 : Hid (wb.heap.size ≤ wa12.heap.size) := XA12.out.size
        clear hb
        go_simp
        refine hK.out _ _ XA15.out (fun hHeld6 => ?_)
        clear hK K hHeld7
        try simp only [Act.put, List.setIfInBounds_toArray, List.set_cons_zero, List.set_cons_succ]
        generalize hwn : (wa12.alloc (.cells #[.nilFunc] 115)) = wa15 at *
        clear hwn
        refine wpAnyH_ready (rs := [5]) (by kernel_rfl) (by simp) ?_
        refine (AllReadyH.cons rfl (fun K hK => ?_) AllReadyH.nil)
        · go_simp
          go_at_call 98
          refine (pknower_any x bm _).mono ?_
          rintro e wc16 ⟨k3, k2, rfl, hc, hb⟩
          have HK := Lib.hid hc
          have XC16 := Lib.hid (XA15.out.trans (hb.mono XA15.out.size))
          replace HPs := Lib.hid (HPs.out.on hb)
          replace HIs := Lib.hid (HIs.out.on hb)
          replace HM := Lib.hid (HM.out.on hb)
          replace HF5 := Lib.hid ((frozen_below hb (rec_cell_lt HZ5.out)).trans HF5.out)
          replace HZ5 := Lib.hid ((hb.cell (rec_cell_lt HZ5.out)).trans HZ5.out)
          replace HF4 := Lib.hid ((frozen_below hb (rec_cell_lt HZ4.out)).trans HF4.out)
          replace HZ4 := Lib.hid ((hb.cell (rec_cell_lt HZ4.out)).trans HZ4.out)
          clear hc hb
          refine hK.out _ _ XC16.out (fun hHeld5 => ?_)
          clear hK K hHeld6
          try simp only [Act.put, List.setIfInBounds_toArray, List.set_cons_zero, List.set_cons_succ]
          have HE := Lib.hid (look_end HM.out HK.out HPs.out HIs.out HZ4.out HZ5.out HF4.out HF5.out HNE.out XC16.out HL4.out HL5.out HLM.out)
          refine wpAnyH_ready (rs := [8]) (by kernel_rfl) (by simp) ?_
          refine AllReadyH.cons rfl (fun K hK => ?_) AllReadyH.nil
          have m0 := HZ4.out
          have mf0 := HF4.out
          go_simp
          refine hK.out _ _ (HE.out.1) (fun hHeld8 => ?_)
          clear hK K hHeld5 m0 mf0
          try simp only [Act.put, List.setIfInBounds_toArray, List.set_cons_zero, List.set_cons_succ]
          have m0 := HE.out.2.1
          have mf0 := HE.out.2.2.1
          generalize hwn : (wc16.setCell ⟨wa12.heap.size, 0, none⟩ (.func (.func 119) #[] #[.pointer (some ⟨g3, 0, none⟩), .pointer (some ⟨g2, 0, none⟩)])) = ws at *
          clear hwn
          refine wpAnyH_ready (rs := [9]) (by kernel_rfl) (by simp) ?_
          refine AllReadyH.cons rfl (fun K hK => ?_) AllReadyH.nil
          go_simp
          refine hK.out _ _ (HE.out.2.2.2.1) (fun hHeld9 => ?_)
          clear hK K hHeld8 m0 mf0
          try simp only [Act.put, List.setIfInBounds_toArray, List.set_cons_zero, List.set_cons_succ]
          generalize hwn : (ws.setCell ⟨wc1.heap.size, 0, none⟩ (.func (.func 121) #[] #[.pointer (some ⟨k3, 0, none⟩), .pointer (some ⟨k2, 0, none⟩)])) = wt at *
          clear hwn
          refine wpAnyH_done (by kernel_rfl) ?_ _
          refine NoPanic.normal ?_
          go_wp2
          go_ret
          exact ⟨_, _, _, _, _, _, _, _, rfl, HE.out.2.2.2.2, HB.out.trans (HE.out.2.2.2.1.mono HB.out.size), HGE.out⟩
  · have hb : Below wD.heap.size wD (wD.alloc (.cells #[.nilFunc] 115)) := (Below.refl _ _).alloc (Nat.le_refl _) _
    have XA17 := Lib.hid (XB0.out.trans (hb.mono XB0.out.size))
    replace HPs := Lib.hid (HPs.out.on hb)
    replace HIs := Lib.hid (HIs.out.on hb)
    have HZ4 : Hid ((wD.alloc (.cells #[.nilFunc] 115)).cell? ⟨wD.heap.size, 0, none⟩ = some .nilFunc) := by show _ = _; rw [World.cell?_alloc_new]; rfl
    have HF4 : Hid ((wD.alloc (.cells #[.nilFunc] 115)).frozen? ⟨wD.heap.size, 0, none⟩ = false) := by
      show _ = _
      have h := heap_alloc_new wD (.cells #[.nilFunc] 115)
      simp only [World.frozen?, h]
      rfl
    have HL4 : Hid (wb.heap.size ≤ wD.heap.size) := XB0.out.size
    clear hb
    go_simp
    refine hK.out _ _ XA17.out (fun hHeld6 => ?_)
    clear hK K hHeld
    try simp only [Act.put, List.setIfInBounds_toArray, List.set_cons_zero, List.set_cons_succ]
    generalize hwn : (wD.alloc (.cells #[.nilFunc] 115)) = wa17 at *
    clear hwn
    refine wpAnyH_ready (rs := [2, 7]) (by kernel_rfl) (by simp) ?_
    refine (AllReadyH.cons rfl (fun K hK => ?_) (AllReadyH.cons rfl (fun K hK => ?_) AllReadyH.nil))
    · go_simp
      go_at_call 97
      refine (pmaker_any x bm _).mono ?_
      rintro e wc18 ⟨g3, g2, rfl, hc, hb⟩
      have HM := Lib.hid hc
      have XC18 := Lib.hid (XA17.out.trans (hb.mono XA17.out.size))
      replace HPs := Lib.hid (HPs.out.on hb)
      replace HIs := Lib.hid (HIs.out.on hb)
      replace HF4 := Lib.hid ((frozen_below hb (rec_cell_lt HZ4.out)).trans HF4.out)
      replace HZ4 := Lib.hid ((hb.cell (rec_cell_lt HZ4.out)).trans HZ4.out)
      clear hc hb
      refine hK.out _ _ XC18.out (fun hHeld2 => ?_)
      clear hK K hHeld6
      try simp only [Act.put, List.setIfInBounds_toArray, List.set_cons_zero, List.set_cons_succ]
      refine wpAnyH_ready (rs := [5, 7]) (by kernel_rfl) (by simp) ?_
      refine (AllReadyH.cons rfl (fun K hK => ?_) (AllReadyH.cons rfl (fun K hK => ?_) AllReadyH.nil))
      · go_simp
        go_at_call 98
        refine (pknower_any x bm _).mono ?_
        rintro e wc19 ⟨k3, k2, rfl, hc, hb⟩
        have HK := Lib.hid hc
        have XC19 := Lib.hid (XC18.out.trans (hb.mono XC18.out.size))
        replace HPs := Lib.hid (HPs.out.on hb)
        replace HIs := Lib.hid (HIs.out.on hb)
        replace HF4 := Lib.hid ((frozen_below hb (rec_cell_lt HZ4.out)).trans HF4.out)
        replace HZ4 := Lib.hid ((hb.cell (rec_cell_lt HZ4.out)).trans HZ4.out)
        replace HM := Lib.hid (HM.out.on hb)
        clear hc hb
        refine hK.out _ _ XC19.out (fun hHeld5 => ?_)
        clear hK K hHeld2
        try simp only [Act.put, List.setIfInBounds_toArray, List.set_cons_zero, List.set_cons_succ]
        refine wpAnyH_ready (rs := [7]) (by kernel_rfl) (by simp) ?_
        refine (AllReadyH.cons rfl (fun K hK => ?_) AllReadyH.nil)
        · have HNE : Hid (wD.heap.size ≠ wc19.heap.size) := by show _ ≠ _; have h1 := rec_cell_lt HZ4.out; omega
          have hb : Below wc19.heap.size wc19 (wc19.alloc (.cells #[.nilFunc] 115)) := (Below.refl _ _).alloc (Nat.le_refl _) _
          have XA20 := Lib.hid (XC19.out.trans (hb.mono XC19.out.size))
          replace HPs := Lib.hid (HPs.out.on hb)
          replace HIs := Lib.hid (HIs.out.on hb)
          replace HF4 := Lib.hid ((frozen_below hb (rec_cell_lt HZ4.out)).trans HF4.out)
          replace HZ4 := Lib.hid ((hb.cell (rec_cell_lt HZ4.out)).trans HZ4.out)
          replace HM := Lib.hid (HM.out.on hb)
          replace HK := Lib.hid (HK.out.on hb)
          have HZ5 : Hid ((wc19.alloc (.cells #[.nilFunc] 115)).cell? ⟨wc19.heap.size, 0, none⟩ = some .nilFunc) := by show _ = _; rw [World.cell?_alloc_new]; rfl
          have HF5 : Hid ((wc19.alloc (.cells #[.nilFunc] 115)).frozen? ⟨wc19.heap.size, 0, none⟩ = false) := by
            show _ = _
            have h := heap_alloc_new wc19 (.cells #[.nilFunc] 115)
            simp only [World.frozen?, h]
            rfl
          have HL5 : Hid (wb.heap.size ≤ wc19.heap.size) := XC19.out.size
          clear hb
          go_simp
          refine hK.out _ _ XA20.out (fun hHeld7 => ?_)
          clear hK K hHeld5
          try simp only [Act.put, List.setIfInBounds_toArray, List.set_cons_zero, List.set_cons_succ]
          generalize hwn : (wc19.alloc (.cells #[.nilFunc] 115)) = wa20 at *
          clear hwn
          have HE := Lib.hid (look_end HM.out HK.out HPs.out HIs.out HZ4.out HZ5.out HF4.out HF5.out HNE.out XA20.out HL4.out HL5.out HLM.out)
          refine wpAnyH_ready (rs := [8]) (by kernel_rfl) (by simp) ?_
          refine AllReadyH.cons rfl (fun K hK => ?_) AllReadyH.nil
          have m0 := HZ4.out
          have mf0 := HF4.out
          go_simp
          refine hK.out _ _ (HE.out.1) (fun hHeld8 => ?_)
          clear hK K hHeld7 m0 mf0
          try simp only [Act.put, List.setIfInBounds_toArray, List.set_cons_zero, List.set_cons_succ]
          have m0 := HE.out.2.1
          have mf0 := HE.out.2.2.1
          generalize hwn : (wa20.setCell ⟨wD.heap.size, 0, none⟩ (.func (.func 119) #[] #[.pointer (some ⟨g3, 0, none⟩), .pointer (some ⟨g2, 0, none⟩)])) = ws at *
          clear hwn
          refine wpAnyH_ready (rs := [9]) (by kernel_rfl) (by simp) ?_
          refine AllReadyH.cons rfl (fun K hK => ?_) AllReadyH.nil
          go_simp
          refine hK.out _ _ (HE.out.2.2.2.1) (fun hHeld9 => ?_)
          clear hK K hHeld8 m0 mf0
          try simp only [Act.put, List.setIfInBounds_toArray, List.set_cons_zero, List.set_cons_succ]
          generalize hwn : (ws.setCell ⟨wc19.heap.size, 0, none⟩ (.func (.func 121) #[] #[.pointer (some ⟨k3, 0, none⟩), .pointer (some ⟨k2, 0, none⟩)])) = wt at *
          clear hwn
          refine wpAnyH_done (by kernel_rfl) ?_ _
          refine NoPanic.normal ?_
          go_wp2
          go_ret
          exact ⟨_, _, _, _, _, _, _, _, rfl, HE.out.2.2.2.2, HB.out.trans (HE.out.2.2.2.1.mono HB.out.size), HGE.out⟩
      · have HNE : Hid (wD.heap.size ≠ wc18.heap.size) := by show _ ≠ _; have h1 := rec_cell_lt HZ4.out; omega
        have hb : Below wc18.heap.size wc18 (wc18.alloc (.cells #[.nilFunc] 115)) := (Below.refl _ _).alloc (Nat.le_refl _) _
        have XA21 := Lib.hid (XC18.out.trans (hb.mono XC18.out.size))
        replace HPs := Lib.hid (HPs.out.on hb)
        replace HIs := Lib.hid (HIs.out.on hb)
        replace HF4 := Lib.hid ((frozen_below hb (rec_cell_lt HZ4.out)).trans HF4.out)
        replace HZ4 := Lib.hid ((hb.cell (rec_cell_lt HZ4.out)).trans HZ4.out)
        replace HM := Lib.hid (HM.out.on hb)
        have HZ5 : Hid ((wc18.alloc (.cells #[.nilFunc] 115)).cell? ⟨wc18.heap.size, 0, none⟩ = some .nilFunc) := by show _ = _; rw [World.cell?_alloc_new]; rfl
        have HF5 : Hid ((wc18.alloc (.cells #[.nilFunc] 115)).frozen? ⟨wc18.heap.size, 0, none⟩ = false) := by
          show _ = _
          have h := heap_alloc_new wc18 (.cells #[.nilFunc] 115)
          simp only [World.frozen?, h]
          rfl
        have HL5 : Hid (wb.heap.size ≤ wc18.heap.size) := XC18.out.size
        clear hb
        go_simp
        refine hK.out _ _ XA21.out (fun hHeld7 => ?_)
        clear hK K hHeld2
        try simp only [Act.put, List.setIfInBounds_toArray, List.set_cons_zero, List.set_cons_succ]
        generalize hwn : (wc18.alloc (.cells #[.nilFunc] 115)) = wa21 at *
        clear hwn
        refine wpAnyH_ready (rs := [5]) (by kernel_rfl) (by simp) ?_
        refine (AllReadyH.cons rfl (fun K hK => ?_) AllReadyH.nil)
        · go_simp
          go_at_call 98
          refine (pknower_any x bm _).mono ?_
          rintro e wc22 ⟨k3, k2, rfl, hc, hb⟩
          have HK := Lib.hid hc
          have XC22 := Lib.hid (XA21.out.trans (hb.mono XA21.out.size))
          replace HPs := Lib.hid (HPs.out.on hb)
          replace HIs := Lib.hid (HIs.out.on hb)
          replace HF4 := Lib.hid ((frozen_below hb (rec_cell_lt HZ4.out)).trans HF4.out)
          replace HZ4 := Lib.hid ((hb.cell (rec_cell_lt HZ4.out)).trans HZ4.out)
          replace HM := Lib.hid (HM.out.on hb)
          replace HF5 := Lib.hid ((frozen_below hb (rec_cell_lt HZ5.out)).trans HF5.out)
          replace HZ5 := Lib.hid ((hb.cell (rec_cell_lt HZ5.out)).trans HZ5.out)
          clear hc hb
          refine hK.out _ _ XC22.out (fun hHeld5 => ?_)
          clear hK K hHeld7
          try simp only [Act.put, List.setIfInBounds_toArray, List.set_cons_zero, List.set_cons_succ]
          have HE := Lib.hid (look_end HM.out HK.out HPs.out HIs.out HZ4.out HZ5.out HF4.out HF5.out HNE.out XC22.out HL4.out HL5.out HLM.out)
          refine wpAnyH_ready (rs := [8]) (by kernel_rfl) (by simp) ?_
          refine AllReadyH.cons rfl (fun K hK => ?_) AllReadyH.nil
          have m0 := HZ4.out
          have mf0 := HF4.out
          go_simp
          refine hK.out _ _ (HE.out.1) (fun hHeld8 => ?_)
          clear hK K hHeld5 m0 mf0
          try simp only [Act.put, List.setIfInBounds_toArray, List.set_cons_zero, List.set_cons_succ]
          have m0 := HE.out.2.1
          have mf0 := HE.out.2.2.1
          generalize hwn : (wc22.setCell ⟨wD.heap.size, 0, none⟩ (.func (.func 119) #[] #[.pointer (some ⟨g3, 0, none⟩), .pointer (some ⟨g2, 0, none⟩)])) = ws at *
          clear hwn
          refine wpAnyH_ready (rs := [9]) (by kernel_rfl) (by simp) ?_
          refine AllReadyH.cons rfl (fun K hK => ?_) AllReadyH.nil
          go_simp
          refine hK.out _ _ (HE.out.2.2.2.1) (fun hHeld9 => ?_)
          clear hK K hHeld8 m0 mf0
          try simp only [Act.put, List.setIfInBounds_toArray, List.set_cons_zero, List.set_cons_succ]
          generalize hwn : (ws.setCell ⟨wc18.heap.size, 0, none⟩ (.func (.func 121) #[] #[.pointer (some ⟨k3, 0, none⟩), .pointer (some ⟨k2, 0, none⟩)])) = wt at *
          clear hwn
          refine wpAnyH_done (by kernel_rfl) ?_ _
          refine NoPanic.normal ?_
          go_wp2
          go_ret
          exact ⟨_, _, _, _, _, _, _, _, rfl, HE.out.2.2.2.2, HB.out.trans (HE.out.2.2.2.1.mono HB.out.size), HGE.out⟩
    · have HNE : Hid (wD.heap.size ≠ wa17.heap.size) := by show _ ≠ _; have h1 := rec_cell_lt HZ4.out; omega
      have hb : Below wa17.heap.size wa17 (wa17.alloc (.cells #[.nilFunc] 115)) := (Below.refl _ _).alloc (Nat.le_refl _) _
      have XA23 := Lib.hid (XA17.out.trans (hb.mono XA17.out.size))
      replace HPs := Lib.hid (HPs.out.on hb)
      replace HIs := Lib.hid (HIs.out.on hb)
      replace HF4 := Lib.hid ((frozen_below hb (rec_cell_lt HZ4.out)).trans HF4.out)
      replace HZ4 := Lib.hid ((hb.cell (rec_cell_lt HZ4.out)).trans HZ4.out)
      have HZ5 : Hid ((wa17.alloc (.cells #[.nilFunc] 115)).cell? ⟨wa17.heap.size, 0, none⟩ = some .nilFunc) := by show _ = _; rw [World.cell?_alloc_new]; rfl
      have HF5 : Hid ((wa17.alloc (.cells #[.nilFunc] 115)).frozen? ⟨wa17.heap.size, 0, none⟩ = false) := by
        show _ = _
        have h := heap_alloc_new wa17 (.cells #[.nilFunc] 115)
        simp only [World.frozen?, h]
        rfl
      have HL5 : Hid (wb.heap.size ≤ wa17.heap.size) := XA17.out.size
      clear hb
      go_simp
      refine hK.out _ _ XA23.out (fun hHeld7 => ?_)
      clear hK K hHeld6
      try simp only [Act.put, List.setIfInBounds_toArray, List.set_cons_zero, List.set_cons_succ]
      generalize hwn : (wa17.alloc (.cells #[.nilFunc] 115)) = wa23 at *
      clear hwn
      refine wpAnyH_ready (rs := [2]) (by kernel_rfl) (by simp) ?_
      refine (AllReadyH.cons rfl (fun K hK => ?_) AllReadyH.nil)
      · go_simp
        go_at_call 97
        refine (pmaker_any x bm _).mono ?_
        rintro e wc24 ⟨g3, g2, rfl, hc, hb⟩
        have HM := Lib.hid hc
        have XC24 := Lib.hid (XA23.out.trans (hb.mono XA23.out.size))
        replace HPs := Lib.hid (HPs.out.on hb)
        replace HIs := Lib.hid (HIs.out.on hb)
        replace HF4 := Lib.hid ((frozen_below hb (rec_cell_lt HZ4.out)).trans HF4.out)
        replace HZ4 := Lib.hid ((hb.cell (rec_cell_lt HZ4.out)).trans HZ4.out)
        replace HF5 := Lib.hid ((frozen_below hb (rec_cell_lt HZ5.out)).trans HF5.out)
        replace HZ5 := Lib.hid ((hb.cell (rec_cell_lt HZ5.out)).trans HZ5.out)
        clear hc hb
        refine hK.out _ _ XC24.out (fun hHeld2 => ?_)
        clear hK K hHeld7
        try simp only [Act.put, List.setIfInBounds_toArray, List.set_cons_zero, List.set_cons_succ]
        refine wpAnyH_ready (rs := [5]) (by kernel_rfl) (by simp) ?_
        refine (AllReadyH.cons rfl (fun K hK => ?_) AllReadyH.nil)
        · go_simp
          go_at_call 98
          refine (pknower_any x bm _).mono ?_
          rintro e wc25 ⟨k3, k2, rfl, hc, hb⟩
          have HK := Lib.hid hc
          have XC25 := Lib.hid (XC24.out.trans (hb.mono XC24.out.size))
          replace HPs := Lib.hid (HPs.out.on hb)
          replace HIs := Lib.hid (HIs.out.on hb)
          replace HF4 := Lib.hid ((frozen_below hb (rec_cell_lt HZ4.out)).trans HF4.out)
          replace HZ4 := Lib.hid ((hb.cell (rec_cell_lt HZ4.out)).trans HZ4.out)
          replace HF5 := Lib.hid ((frozen_below hb (rec_cell_lt HZ5.out)).trans HF5.out)
          replace HZ5 := Lib.hid ((hb.cell (rec_cell_lt HZ5.out)).trans HZ5.out)
          replace HM := Lib.hid (HM.out.on hb)
          clear hc hb
          refine hK.out _ _ XC25.out (fun hHeld5 => ?_)
          clear hK K hHeld2
          try simp only [Act.put, List.setIfInBounds_toArray, List.set_cons_zero, List.set_cons_succ]
          have HE := Lib.hid (look_end HM.out HK.out HPs.out HIs.out HZ4.out HZ5.out HF4.out HF5.out HNE.out XC25.out HL4.out HL5.out HLM.out)
          refine wpAnyH_ready (rs := [8]) (by kernel_rfl) (by simp) ?_
          refine AllReadyH.cons rfl (fun K hK => ?_) AllReadyH.nil
          have m0 := HZ4.out
          have mf0 := HF4.out
          go_simp
          refine hK.out _ _ (HE.out.1) (fun hHeld8 => ?_)
          clear hK K hHeld5 m0 mf0
          try simp only [Act.put, List.setIfInBounds_toArray, List.set_cons_zero, List.set_cons_succ]
          have m0 := HE.out.2.1
          have mf0 := HE.out.2.2.1
          generalize hwn : (wc25.setCell ⟨wD.heap.size, 0, none⟩ (.func (.func 119) #[] #[.pointer (some ⟨g3, 0, none⟩), .pointer (some ⟨g2, 0, none⟩)])) = ws at *
          clear hwn
          refine wpAnyH_ready (rs := [9]) (by kernel_rfl) (by simp) ?_
          refine AllReadyH.cons rfl (fun K hK => ?_) AllReadyH.nil
          go_simp
          refine hK.out _ _ (HE.out.2.2.2.1) (fun hHeld9 => ?_)
          clear hK K hHeld8 m0 mf0
          try simp only [Act.put, List.setIfInBounds_toArray, List.set_cons_zero, List.set_cons_succ]
          generalize hwn : (ws.setCell ⟨wa17.heap.size, 0, none⟩ (.func (.func 121) #[] #[.pointer (some ⟨k3, 0, none⟩), .pointer (some ⟨k2, 0, none⟩)])) = wt at *
          clear hwn
          refine wpAnyH_done (by kernel_rfl) ?_ _
          refine NoPanic.normal ?_
          go_wp2
          go_ret
          exact ⟨_, _, _, _, _, _, _, _, rfl, HE.out.2.2.2.2, HB.out.trans (HE.out.2.2.2.1.mono HB.out.size), HGE.out⟩
  · have hb : Below wD.heap.size wD (wD.alloc (.cells #[.nilFunc] 115)) := (Below.refl _ _).alloc (Nat.le_refl _) _
    have XA26 := Lib.hid (XB0.out.trans (hb.mono XB0.out.size))
    replace HPs := Lib.hid (HPs.out.on hb)
    replace HIs := Lib.hid (HIs.out.on hb)
    have HZ5 : Hid ((wD.alloc (.cells #[.nilFunc] 115)).cell? ⟨wD.heap.size, 0, none⟩ = some .nilFunc) := by show _ = _; rw [World.cell?_alloc_new]; rfl
    have HF5 : Hid ((wD.alloc (.cells #[.nilFunc] 115)).frozen? ⟨wD.heap.size, 0, none⟩ = false) := by
      show _ = _
      have h := heap_alloc_new wD (.cells #[.nilFunc] 115)
      simp only [World.frozen?, h]
      rfl
    have HL5 : Hid (wb.heap.size ≤ wD.heap.size) := XB0.out.size
    clear hb
    go_simp
    refine hK.out _ _ XA26.out (fun hHeld7 => ?_)
    clear hK K hHeld
    try simp only [Act.put, List.setIfInBounds_toArray, List.set_cons_zero, List.set_cons_succ]
    generalize hwn : (wD.alloc (.cells #[.nilFunc] 115)) = wa26 at *
    clear hwn
    refine wpAnyH_ready (rs := [2, 6]) (by kernel_rfl) (by simp) ?_
    refine (AllReadyH.cons rfl (fun K hK => ?_) (AllReadyH.cons rfl (fun K hK => ?_) AllReadyH.nil))
    · go_simp
      go_at_call 97
      refine (pmaker_any x bm _).mono ?_
      rintro e wc27 ⟨g3, g2, rfl, hc, hb⟩
      have HM := Lib.hid hc
      have XC27 := Lib.hid (XA26.out.trans (hb.mono XA26.out.size))
      replace HPs := Lib.hid (HPs.out.on hb)
      replace HIs := Lib.hid (HIs.out.on hb)
      replace HF5 := Lib.hid ((frozen_below hb (rec_cell_lt HZ5.out)).trans HF5.out)
      replace HZ5 := Lib.hid ((hb.cell (rec_cell_lt HZ5.out)).trans HZ5.out)
      clear hc hb
      refine hK.out _ _ XC27.out (fun hHeld2 => ?_)
      clear hK K hHeld7
      try simp only [Act.put, List.setIfInBounds_toArray, List.set_cons_zero, List.set_cons_succ]
      refine wpAnyH_ready (rs := [5, 6]) (by kernel_rfl) (by simp) ?_
      refine (AllReadyH.cons rfl (fun K hK => ?_) (AllReadyH.cons rfl (fun K hK => ?_) AllReadyH.nil))
      · go_simp
        go_at_call 98
        refine (pknower_any x bm _).mono ?_
        rintro e wc28 ⟨k3, k2, rfl, hc, hb⟩
        have HK := Lib.hid hc
        have XC28 := Lib.hid (XC27.out.trans (hb.mono XC27.out.size))
        replace HPs := Lib.hid (HPs.out.on hb)
        replace HIs := Lib.hid (HIs.out.on hb)
        replace HF5 := Lib.hid ((frozen_below hb (rec_cell_lt HZ5.out)).trans HF5.out)
        replace HZ5 := Lib.hid ((hb.cell (rec_cell_lt HZ5.out)).trans HZ5.out)
        replace HM := Lib.hid (HM.out.on hb)
        clear hc hb
        refine hK.out _ _ XC28.out (fun hHeld5 => ?_)
        clear hK K hHeld2
        try simp only [Act.put, List.setIfInBounds_toArray, List.set_cons_zero, List.set_cons_succ]
        refine wpAnyH_ready (rs := [6]) (by kernel_rfl) (by simp) ?_
        refine (AllReadyH.cons rfl (fun K hK => ?_) AllReadyH.nil)
        · have HNE : Hid (wc28.heap.size ≠ wD.heap.size) := by show _ ≠ _; have h1 := rec_cell_lt HZ5.out; omega
          have hb : Below wc28.heap.size wc28 (wc28.alloc (.cells #[.nilFunc] 115)) := (Below.refl _ _).alloc (Nat.le_refl _) _
          have XA29 := Lib.hid (XC28.out.trans (hb.mono XC28.out.size))
          replace HPs := Lib.hid (HPs.out.on hb)
          replace HIs := Lib.hid (HIs.out.on hb)
          replace HF5 := Lib.hid ((frozen_below hb (rec_cell_lt HZ5.out)).trans HF5.out)
          replace HZ5 := Lib.hid ((hb.cell (rec_cell_lt HZ5.out)).trans HZ5.out)
          replace HM := Lib.hid (HM.out.on hb)
          replace HK := Lib.hid (HK.out.on hb)
          have HZ4 : Hid ((wc28.alloc (.cells #[.nilFunc] 115)).cell? ⟨wc28.heap.size, 0, none⟩ = some .nilFunc) := by show _ = _; rw [World.cell?_alloc_new]; rfl
          have HF4 : Hid ((wc28.alloc (.cells #[.nilFunc] 115)).frozen? ⟨wc28.heap.size, 0, none⟩ = false) := by
            show _ = _
            have h := heap_alloc_new wc28 (.cells #[.nilFunc] 115)
            simp only [World.frozen?, h]
            rfl
          have HL4 : Hid (wb.heap.size ≤ wc28.heap.size) := XC28.out.size
          clear hb
          go_simp
          refine hK.out _ _ XA29.out (fun hHeld6 => ?_)
          clear hK K hHeld5
          try simp only [Act.put, List.setIfInBounds_toArray, List.set_cons_zero, List.set_cons_succ]
          generalize hwn : (wc28.alloc (.cells #[.nilFunc] 115)) = wa29 at *
          clear hwn
          have HE := Lib.hid (look_end HM.out HK.out HPs.out HIs.out HZ4.out HZ5.out HF4.out HF5.out HNE.out XA29.out HL4.out HL5.out HLM.out)
          refine wpAnyH_ready (rs := [8]) (by kernel_rfl) (by simp) ?_
          refine AllReadyH.cons rfl (fun K hK => ?_) AllReadyH.nil
          have m0 := HZ4.out
          have mf0 := HF4.out
          go_simp
          refine hK.out _ _ (HE.out.1) (fun hHeld8 => ?_)
          clear hK K hHeld6 m0 mf0
          try simp only [Act.put, List.setIfInBounds_toArray, List.set_cons_zero, List.set_cons_succ]
          have m0 := HE.out.2.1
          have mf0 := HE.out.2.2.1
          generalize hwn : (wa29.setCell ⟨wc28.heap.size, 0, none⟩ (.func (.func 119) #[] #[.pointer (some ⟨g3, 0, none⟩), .pointer (some ⟨g2, 0, none⟩)])) = ws at *
          clear hwn
          refine wpAnyH_ready (rs := [9]) (by kernel_rfl) (by simp) ?_
          refine AllReadyH.cons rfl (fun K hK => ?_) AllReadyH.nil
          go_simp
          refine hK.out _ _ (HE.out.2.2.2.1) (fun hHeld9 => ?_)
          clear hK K hHeld8 m0 mf0
          try simp only [Act.put, List.setIfInBounds_toArray, List.set_cons_zero, List.set_cons_succ]
          generalize hwn : (ws.setCell ⟨wD.heap.size, 0, none⟩ (.func (.func 121) #[] #[.pointer (some ⟨k3, 0, none⟩), .pointer (some ⟨k2, 0, none⟩)])) = wt at *
          clear hwn
          refine wpAnyH_done (by kernel_rfl) ?_ _
          refine NoPanic.normal ?_
          go_wp2
          go_ret
          exact ⟨_, _, _, _, _, _, _, _, rfl, HE.out.2.2.2.2, HB.out.trans (HE.out.2.2.2.1.mono HB.out.size), HGE.out⟩
      · have HNE : Hid (wc27.heap.size ≠ wD.heap.size) := by show _ ≠ _; have h1 := rec_cell_lt HZ5.out; omega
        have hb : Below wc27.heap.size wc27 (wc27.alloc (.cells #[.nilFunc] 115)) := (Below.refl _ _).alloc (Nat.le_refl _) _
        have XA30 := Lib.hid (XC27.out.trans (hb.mono XC27.out.size))
        replace HPs := Lib.hid (HPs.out.on hb)
        replace HIs := Lib.hid (HIs.out.on hb)
        replace HF5 := Lib.hid ((frozen_below hb (rec_cell_lt HZ5.out)).trans HF5.out)
        replace HZ5 := Lib.hid ((hb.cell (rec_cell_lt HZ5.out)).trans HZ5.out)
        replace HM := Lib.hid (HM.out.on hb)
        have HZ4 : Hid ((wc27.alloc (.cells #[.nilFunc] 115)).cell? ⟨wc27.heap.size, 0, none⟩ = some .nilFunc) := by show _ = _; rw [World.cell?_alloc_new]; rfl
        have HF4 : Hid ((wc27.alloc (.cells #[.nilFunc] 115)).frozen? ⟨wc27.heap.size, 0, none⟩ = false) := by
          show _ = _
          have h := heap_alloc_new wc27 (.cells #[.nilFunc] 115)
          simp only [World.frozen?, h]
          rfl
        have HL4 : Hid (wb.heap.size ≤ wc27.heap.size) := XC27.out.size
        clear hb
        go_simp
        refine hK.out _ _ XA30.out (fun hHeld6 => ?_)
        clear hK K hHeld2
        try simp only [Act.put, List.setIfInBounds_toArray, List.set_cons_zero, List.set_cons_succ]
        generalize hwn : (wc27.alloc (.cells #[.nilFunc] 115)) = wa30 at *
        clear hwn
        refine wpAnyH_ready (rs := [5]) (by kernel_rfl) (by simp) ?_
        refine (AllReadyH.cons rfl (fun K hK => ?_) AllReadyH.nil)
        · go_simp
          go_at_call 98
          refine (pknower_any x bm _).mono ?_
          rintro e wc31 ⟨k3, k2, rfl, hc, hb⟩
          have HK := Lib.hid hc
          have XC31 := Lib.hid (XA30.out.trans (hb.mono XA30.out.size))
          replace HPs := Lib.hid (HPs.out.on hb)
          replace HIs := Lib.hid (HIs.out.on hb)
          replace HF5 := Lib.hid ((frozen_below hb (rec_cell_lt HZ5.out)).trans HF5.out)
          replace HZ5 := Lib.hid ((hb.cell (rec_cell_lt HZ5.out)).trans HZ5.out)
          replace HM := Lib.hid (HM.out.on hb)
          replace HF4 := Lib.hid ((frozen_below hb (rec_cell_lt HZ4.out)).trans HF4.out)
          replace HZ4 := Lib.hid ((hb.cell (rec_cell_lt HZ4.out)).trans HZ4.out)
          clear hc hb
          refine hK.out _ _ XC31.out (fun hHeld5 => ?_)
          clear hK K hHeld6
          try simp only [Act.put, List.setIfInBounds_toArray, List.set_cons_zero, List.set_cons_succ]
          have HE := Lib.hid (look_end HM.out HK.out HPs.out HIs.out HZ4.out HZ5.out HF4.out HF5.out HNE.out XC31.out HL4.out HL5.out HLM.out)
          refine wpAnyH_ready (rs := [8]) (by kernel_rfl) (by simp) ?_
          refine AllReadyH.cons rfl (fun K hK => ?_) AllReadyH.nil
          have m0 := HZ4.out
          have mf0 := HF4.out
          go_simp
          refine hK.out _ _ (HE.out.1) (fun hHeld8 => ?_)
          clear hK K hHeld5 m0 mf0
          try simp only [Act.put, List.setIfInBounds_toArray, List.set_cons_zero, List.set_cons_succ]
          have m0 := HE.out.2.1
          have mf0 := HE.out.2.2.1
          generalize hwn : (wc31.setCell ⟨wc27.heap.size, 0, none⟩ (.func (.func 119) #[] #[.pointer (some ⟨g3, 0, none⟩), .pointer (some ⟨g2, 0, none⟩)])) = ws at *
          clear hwn
          refine wpAnyH_ready (rs := [9]) (by kernel_rfl) (by simp) ?_
          refine AllReadyH.cons rfl (fun K hK => ?_) AllReadyH.nil
          go_simp
          refine hK.out _ _ (HE.out.2.2.2.1) (fun hHeld9 => ?_)
          clear hK K hHeld8 m0 mf0
          try simp only [Act.put, List.setIfInBounds_toArray, List.set_cons_zero, List.set_cons_succ]
          generalize hwn : (ws.setCell ⟨wD.heap.size, 0, none⟩ (.func (.func 121) #[] #[.pointer (some ⟨k3, 0, none⟩), .pointer (some ⟨k2, 0, none⟩)])) = wt at *
          clear hwn
          refine wpAnyH_done (by kernel_rfl) ?_ _
          refine NoPanic.normal ?_
          go_wp2
          go_ret
          exact ⟨_, _, _, _, _, _, _, _, rfl, HE.out.2.2.2.2, HB.out.trans (HE.out.2.2.2.1.mono HB.out.size), HGE.out⟩
    · have HNE : Hid (wa26.heap.size ≠ wD.heap.size) := by show _ ≠ _; have h1 := rec_cell_lt HZ5.out; omega
      have hb : Below wa26.heap.size wa26 (wa26.alloc (.cells #[.nilFunc] 115)) := (Below.refl _ _).alloc (Nat.le_refl _) _
      have XA32 := Lib.hid (XA26.out.trans (hb.mono XA26.out.size))
      replace HPs := Lib.hid (HPs.out.on hb)
      replace HIs := Lib.hid (HIs.out.on hb)
      replace HF5 := Lib.hid ((frozen_below hb (rec_cell_lt HZ5.out)).trans HF5.out)
      replace HZ5 := Lib.hid ((hb.cell (rec_cell_lt HZ5.out)).trans HZ5.out)
      have HZ4 : Hid ((wa26.alloc (.cells #[.nilFunc] 115)).cell? ⟨wa26.heap.size, 0, none⟩ = some .nilFunc) := by show _ = _; rw [World.cell?_alloc_new]; rfl
      have HF4 : Hid ((wa26.alloc (.cells #[.nilFunc] 115)).frozen? ⟨wa26.heap.size, 0, none⟩ = false) := by
        show _ = _
        have h := heap_alloc_new wa26 (.cells #[.nilFunc] 115)
        simp only [World.frozen?, h]
        rfl
      have HL4 : Hid (wb.heap.size ≤ wa26.heap.size) := XA26.out.size
      clear hb
      go_simp
      refine hK.out _ _ XA32.out (fun hHeld6 => ?_)
      clear hK K hHeld7
      try simp only [Act.put, List.setIfInBounds_toArray, List.set_cons_zero, List.set_cons_succ]
      generalize hwn : (wa26.alloc (.cells #[.nilFunc] 115)) = wa32 at *
      clear hwn
      refine wpAnyH_ready (rs := [2]) (by kernel_rfl) (by simp) ?_
      refine (AllReadyH.cons rfl (fun K hK => ?_) AllReadyH.nil)
      · go_simp
        go_at_call 97
        refine (pmaker_any x bm _).mono ?_
        rintro e wc33 ⟨g3, g2, rfl, hc, hb⟩
        have HM := Lib.hid hc
        have XC33 := Lib.hid (XA32.out.trans (hb.mono XA32.out.size))
        replace HPs := Lib.hid (HPs.out.on hb)
        replace HIs := Lib.hid (HIs.out.on hb)
        replace HF5 := Lib.hid ((frozen_below hb (rec_cell_lt HZ5.out)).trans HF5.out)
        replace HZ5 := Lib.hid ((hb.cell (rec_cell_lt HZ5.out)).trans HZ5.out)
        replace HF4 := Lib.hid ((frozen_below hb (rec_cell_lt HZ4.out)).trans HF4.out)
        replace HZ4 := Lib.hid ((hb.cell (rec_cell_lt HZ4.out)).trans HZ4.out)
        clear hc hb
        refine hK.out _ _ XC33.out (fun hHeld2 => ?_)
        clear hK K hHeld6
        try simp only [Act.put, List.setIfInBounds_toArray, List.set_cons_zero, List.set_cons_succ]
        refine wpAnyH_ready (rs := [5]) (by kernel_rfl) (by simp) ?_
        refine (AllReadyH.cons rfl (fun K hK => ?_) AllReadyH.nil)
        · go_simp
          go_at_call 98
          refine (pknower_any x bm _).mono ?_
          rintro e wc34 ⟨k3, k2, rfl, hc, hb⟩
          have HK := Lib.hid hc
          have XC34 := Lib.hid (XC33.out.trans (hb.mono XC33.out.size))
          replace HPs := Lib.hid (HPs.out.on hb)
          replace HIs := Lib.hid (HIs.out.on hb)
          replace HF5 := Lib.hid ((frozen_below hb (rec_cell_lt HZ5.out)).trans HF5.out)
          replace HZ5 := Lib.hid ((hb.cell (rec_cell_lt HZ5.out)).trans HZ5.out)
          replace HF4 := Lib.hid ((frozen_below hb (rec_cell_lt HZ4.out)).trans HF4.out)
          replace HZ4 := Lib.hid ((hb.cell (rec_cell_lt HZ4.out)).trans HZ4.out)
          replace HM := Lib.hid (HM.out.on hb)
          clear hc hb
          refine hK.out _ _ XC34.out (fun hHeld5 => ?_)
          clear hK K hHeld2
          try simp only [Act.put, List.setIfInBounds_toArray, List.set_cons_zero, List.set_cons_succ]
          have HE := Lib.hid (look_end HM.out HK.out HPs.out HIs.out HZ4.out HZ5.out HF4.out HF5.out HNE.out XC34.out HL4.out HL5.out HLM.out)
          refine wpAnyH_ready (rs := [8]) (by kernel_rfl) (by simp) ?_
          refine AllReadyH.cons rfl (fun K hK => ?_) AllReadyH.nil
          have m0 := HZ4.out
          have mf0 := HF4.out
          go_simp
          refine hK.out _ _ (HE.out.1) (fun hHeld8 => ?_)
          clear hK K hHeld5 m0 mf0
          try simp only [Act.put, List.setIfInBounds_toArray, List.set_cons_zero, List.set_cons_succ]
          have m0 := HE.out.2.1
          have mf0 := HE.out.2.2.1
          generalize hwn : (wc34.setCell ⟨wa26.heap.size, 0, none⟩ (.func (.func 119) #[] #[.pointer (some ⟨g3, 0, none⟩), .pointer (some ⟨g2, 0, none⟩)])) = ws at *
          clear hwn
          refine wpAnyH_ready (rs := [9]) (by kernel_rfl) (by simp) ?_
          refine AllReadyH.cons rfl (fun K hK => ?_) AllReadyH.nil
          go_simp
          refine hK.out _ _ (HE.out.2.2.2.1) (fun hHeld9 => ?_)
          clear hK K hHeld8 m0 mf0
          try simp only [Act.put, List.setIfInBounds_toArray, List.set_cons_zero, List.set_cons_succ]
          generalize hwn : (ws.setCell ⟨wD.heap.size, 0, none⟩ (.func (.func 121) #[] #[.pointer (some ⟨k3, 0, none⟩), .pointer (some ⟨k2, 0, none⟩)])) = wt at *
          clear hwn
          refine wpAnyH_done (by kernel_rfl) ?_ _
          refine NoPanic.normal ?_
          go_wp2
          go_ret
          exact ⟨_, _, _, _, _, _, _, _, rfl, HE.out.2.2.2.2, HB.out.trans (HE.out.2.2.2.1.mono HB.out.size), HGE.out⟩
end Go.Proofs.YtifkpelcdihdoaaGreatDoor
