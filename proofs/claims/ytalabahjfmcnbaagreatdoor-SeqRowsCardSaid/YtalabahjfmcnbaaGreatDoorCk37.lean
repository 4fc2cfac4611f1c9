/- The reference's Front of layer 10. -/
import Derived.Laws.Cover1
import Derived.Sort.OwnSorted
import Derived.Deep.RegionHeld3
import Derived.Deep.DrawnRows
import Derived.Deep.RegionLaw
import Derived.BigQuiet
import Derived.Deep.QuietTactic
import Derived.Handy
import Derived.Test.YtalabahjfmcnbaaGreatDoorShelf
import Derived.WalkKit
import Derived.Test.YtalabahjfmcnbaaGreatDoorCk36
namespace Go.Proofs.YtalabahjfmcnbaaGreatDoor
open Go.RowKit
set_option linter.unusedVariables false

/-- What came to the front so far; what stands behind it already. -/
def consA (post : List Pk) (r : Int × Pk × List Pk) : Int × Pk × List Pk := if r.1 ≠ 0 then (r.1, zeroP, []) else (0, r.2.1, r.2.2 ++ post)
theorem consA_ok {r x b a : Pk} (h : pairP r x = (0, b, a)) (post rs : List Pk) : consA post (aheadP (r :: rs) x) = consA (a :: post) (aheadP rs b) := by
  obtain ⟨m, y, o, e⟩ : ∃ m y o, aheadP rs b = (m, y, o) := ⟨_, _, _, rfl⟩
  have e2 : aheadP (r :: rs) x = if m ≠ 0 then (m, zeroP, []) else (0, y, o ++ [a]) := by
    unfold aheadP
    rw [h]
    simp only [ne_eq, not_true_eq_false, if_false, e]
  unfold consA
  rw [e, e2]
  by_cases hm : m = 0 <;> simp [hm]
theorem consA_err {r x b a : Pk} {n : Int} (h : pairP r x = (n, b, a)) (hn : n ≠ 0) (post rs : List Pk) : consA post (aheadP (r :: rs) x) = (n, zeroP, []) := by
  unfold consA aheadP
  rw [h]
  simp [hn]
theorem consA_end (post : List Pk) (x : Pk) : consA post (aheadP [] x) = (0, x, post) := by simp [consA, aheadP]
/-- Front, out of what comes to the front. -/
def frontOf (r : Int × Pk × List Pk) (tl : List Pk) : Int × List Pk := if r.1 ≠ 0 then (r.1, []) else (0, r.2.1 :: r.2.2 ++ tl)
theorem front_of {l : List Pk} {i : Nat} (h : i < l.length) : frontP l i = frontOf (consA [] (aheadP (l.take i).reverse l[i])) (l.drop (i + 1)) := by
  unfold frontP frontOf consA
  rw [dif_pos h]
  obtain ⟨n, y, o, e⟩ : ∃ n y o, aheadP (l.take i).reverse l[i] = (n, y, o) := ⟨_, _, _, rfl⟩
  rw [e]
  by_cases hn : n = 0 <;> simp [hn]
/-- What Front hands back. -/
def FrontB (w : World) (B : Nat) (res : Int × List Pk) (e : Ending) (w' : World) : Prop :=
  ∃ (A : Option Addr) (n c : Nat) (rs : List Pm) (er : Int), e = .returned (.tuple #[.slice A n c, .int .i64 er]) ∧ Hid (RowB w' B A n c rs ∧ res = (er, pkeys rs)) ∧ Below w.heap.size w w'
/-- What Front's loop holds. -/
structure FrontI (w wr : World) (B : Nat) (x : Pm) (A2 : Option Addr) (n2 c2 : Nat) (ss : List Pm) : Prop where
  px : PrimAt wr w.heap.size x
  xok : x.Ok wr B
  lt : LtK x.key
  below : Below w.heap.size w wr
theorem front_out (w : World) (B : Nat) (l : List Pm) (A : Option Addr) (lc : Nat) (iv : Int) (h : iv < 0 ∨ (l.length : Int) ≤ iv) :
    Calls Tryz.prog 11 #[.slice A l.length lc, .int .i64 iv] w (FrontB w B (3, [])) := by
  have HF : Hid (FrontB w B (3, []) (.returned (.tuple #[.slice none 0 0, .int .i64 3])) w) := ⟨none, 0, 0, [], 3, rfl, ⟨RowB.nil _ _, rfl⟩, Below.refl _ _⟩
  by_cases h1 : iv < 0
  · clear h
    go_enter Tryz.func11, Tryz.ntmps11
    go_wp2
    go_ret2
    exact HF.out
  · have h2 : (l.length : Int) ≤ iv := by omega
    have h3 : 0 ≤ iv := by omega
    clear h
    go_enter Tryz.func11, Tryz.ntmps11
    go_wp2
    go_ret2
    exact HF.out
set_option maxHeartbeats 40000000 in
set_option maxRecDepth 100000 in
theorem reffront_any (A : Option Addr) (l : List Pm) (lc i : Nat) (w : World) (B : Nat) (hB : B ≤ w.heap.size) (ha : RowB w B A l.length lc l) (hl : ∀ y ∈ l, LtK y.key) (hn : l.length ≤ 500) (hi : i < l.length) (hT : Tabs w) :
    Calls Tryz.prog 11 #[.slice A l.length lc, .int .i64 (i : Int)] w (FrontB w B (frontP (pkeys l) i)) := by
  obtain ⟨R9, hR9⟩ : ∃ r, consA [] (aheadP ((pkeys l).take i).reverse l[i].key) = r := ⟨_, rfl⟩
  have hfr : frontP (pkeys l) i = frontOf R9 ((pkeys l).drop (i + 1)) := by
    rw [front_of (by rw [pkeys_len]; exact hi), ← hR9]
    congr 3
    simp [pkeys]
  obtain ⟨R8, hR8⟩ : ∃ r, frontP (pkeys l) i = r := ⟨_, rfl⟩
  rw [hR8]
  have HFR : Hid (R8 = frontOf R9 ((pkeys l).drop (i + 1))) := hR8.symm.trans hfr
  clear hfr hR8
  obtain ⟨lb, lo, rfl, _, d0, d1, d2, d3, d4, d5⟩ := ha.at_.get hi
  obtain ⟨A5, hA5, hP5, hN5⟩ := run_slice_prims_from lb lo l.length lc (i + 1) (by omega) ha.room.2
  obtain ⟨x0, hx0⟩ : ∃ x, l[i] = x := ⟨_, rfl⟩
  have hxB := ha.ok l[i] (List.getElem_mem _)
  have hxl := hl l[i] (List.getElem_mem _)
  rw [hx0] at d0 d1 d2 d3 d4 d5 hxB hxl hR9
  have hal : Below w.heap.size w (w.alloc (.cells #[.int .i64 x0.kind, .string x0.p, .string x0.dst, .int .i64 x0.at_, .slice x0.a1 x0.old.length x0.c1, .slice x0.a2 x0.new.length x0.c2] 33)) := (Below.refl _ _).alloc (Nat.le_refl _) _
  have HI0 : Hid (FrontI w (w.alloc (.cells #[.int .i64 x0.kind, .string x0.p, .string x0.dst, .int .i64 x0.at_, .slice x0.a1 x0.old.length x0.c1, .slice x0.a2 x0.new.length x0.c2] 33)) B x0 none 0 0 []) := ⟨PrimAt.new_ w x0, hxB.below (hal.mono hB), hxl, hal⟩
  have HR0 := Lib.hid hR9
  have HS := Lib.hid ha
  have HL := Lib.hid hl
  have HT := Lib.hid hT
  have HBW := Lib.hid hB
  have HA5 : Hid (Ps w w.heap.size A5 (l.drop (i + 1)) ∧ (A5 = none → lc - (i + 1) = 0)) := ⟨hP5 _ _ _ rfl ha.at_, hN5⟩
  have HS5 := Lib.hid hA5
  have u1 : (0 : Int) ≤ (i : Int) := by omega
  have u2 : (i : Int) < (l.length : Int) := by omega
  have q1 : IntKind.i64.wrap ((i : Int) - 1) = (i : Int) - 1 := IntWalk.i64_in _ (by omega)
  clear hP5 hN5 hA5 hR9 ha hl hT hB hxB hxl hal hx0
  go_enter Tryz.func11, Tryz.ntmps11
  go_wp2
  clear d0 d1 d2 d3 d4 d5 q1
  generalize hbq : decide (l.length ≤ i) = bq
  clear hbq
  go_loopw [7, 8] (fun hv iv wr => ∃ (k : Nat) (x : Pm) (A2 : Option Addr) (n2 c2 : Nat) (ss : List Pm), hv = .slice A2 n2 c2 ∧ iv = .int .i64 ((k : Int) - 1) ∧ k ≤ i ∧ Hid (FrontI w wr B x A2 n2 c2 ss) ∧ Hid (consA (pkeys ss) (aheadP ((pkeys l).take k).reverse x.key) = R9) ∧ Hid (OwnP wr (w.heap.size + 1) (.slice A2 n2 c2) ss ∧ (∀ z ∈ ss, z.Ok wr B) ∧ ss.length + k ≤ i)) (fun _ iv _ => (intOf iv + 1).toNat)
  case atStart => exact ⟨i, x0, none, 0, 0, [], rfl, rfl, Nat.le_refl _, HI0.out, HR0.out, ⟨OwnP.nil _ _, (fun z hz => by cases hz), by simp⟩⟩
  case round =>
    clear HI0 HR0
    obtain ⟨k, x, A2, n2, c2, ss, rfl, rfl, hk, HI, HC, HJ⟩ := hrel
    rcases Nat.eq_zero_or_pos k with h0 | h0
    · subst h0
      have hR : R8 = (0, pkeys (x :: ss ++ l.drop (i + 1))) := by
        rw [HFR.out, ← HC.out]
        show frontOf (consA (pkeys ss) (aheadP [] x.key)) _ = _
        rw [consA_end]
        simp [frontOf, pkeys]
      have HRR := Lib.hid hR
      have HKS : Hid (∀ W, Below wr.heap.size wr W → W.cell? ⟨w.heap.size, 0, none⟩ = some (.int .i64 x.kind) ∧ W.cell? ⟨w.heap.size, 1, none⟩ = some (.string x.p) ∧ W.cell? ⟨w.heap.size, 2, none⟩ = some (.string x.dst) ∧ W.cell? ⟨w.heap.size, 3, none⟩ = some (.int .i64 x.at_) ∧ W.cell? ⟨w.heap.size, 4, none⟩ = some (.slice x.a1 x.old.length x.c1) ∧ W.cell? ⟨w.heap.size, 5, none⟩ = some (.slice x.a2 x.new.length x.c2)) := fun W hW => by
        have q := HI.out.px.on hW
        exact ⟨q.c0, q.c1, q.c2, q.c3, q.c4, q.c5⟩
      have HDR : Hid (Below wr.heap.size wr wr.drew) := (Below.refl _ _).drew
      have XBL := Lib.hid HI.out.below
      have HXK := Lib.hid HI.out.xok
      have HJR := Lib.hid (RowB.of_own HJ.out.1 (Nat.le_trans HBW.out HI.out.below.size) HJ.out.2.1)
      obtain ⟨N, hN⟩ : ∃ N, N = [x].length + ss.length := ⟨_, rfl⟩
      obtain ⟨M, hM⟩ : ∃ M, M = (x :: ss).length + (l.drop (i + 1)).length := ⟨_, rfl⟩
      have HN := Lib.hid hN
      have HM := Lib.hid hM
      have hs5 : ss.length ≤ 500 := by have := HJ.out.2.2; omega
      have q2 : IntKind.i64.wrap ((i : Int) + 1) = (i : Int) + 1 := IntWalk.i64_in _ (by omega)
      have hS5 : ∀ w, (Instr.slice 22 (.slice (some ⟨lb, lo, none⟩) l.length lc) (some (.int .i64 ((i : Int) + 1))) none none).run Tryz.prog w = .ok (.slice A5 (l.length - (i + 1)) (lc - (i + 1))) w := HS5.out
      clear hR HC HI hN hM HFR
      go_upto_region 13 with (fail)
      refine wp_region_noPanic ?_
      refine wp_region_held_drew (S := (fun w' => w'.cell? ⟨w.heap.size, 0, none⟩ = some (.int .i64 x.kind) ∧ w'.cell? ⟨w.heap.size, 1, none⟩ = some (.string x.p) ∧ w'.cell? ⟨w.heap.size, 2, none⟩ = some (.string x.dst) ∧ w'.cell? ⟨w.heap.size, 3, none⟩ = some (.int .i64 x.at_) ∧ w'.cell? ⟨w.heap.size, 4, none⟩ = some (.slice x.a1 x.old.length x.c1) ∧ w'.cell? ⟨w.heap.size, 5, none⟩ = some (.slice x.a2 x.new.length x.c2))) (by kernel_rfl) (HKS.out _ HDR.out) (fun hHeld => ?_)
      refine wpAnyH_take (i := 0) (oi := { dst := some 48, op := _, type := _, pos := _, after := _, guard := _ }) (v := .agg #[.int .i64 x.kind, .string x.p, .string x.dst, .int .i64 x.at_, .slice x.a1 x.old.length x.c1, .slice x.a2 x.new.length x.c2]) rfl (by kernel_rfl) (by kernel_rfl) (by kernel_rfl) (fun _ _ _ h => h) (Or.inl ⟨by rfl, fun w' hSw => ?_⟩) (by assumption) ?_
      · ((try dsimp only at hSw); go_simp)
      try simp only [Act.put, List.setIfInBounds_toArray, List.set_cons_zero, List.set_cons_succ]
      refine wpAnyH_take (i := 2) (oi := { dst := some 50, op := _, type := _, pos := _, after := _, guard := _ }) (v := .slice A2 n2 c2) rfl (by kernel_rfl) (by kernel_rfl) (by kernel_rfl) (fun _ _ _ h => h) (Or.inl ⟨by rfl, fun w' hSw => ?_⟩) (by assumption) ?_
      · ((try dsimp only at hSw); go_simp)
      try simp only [Act.put, List.setIfInBounds_toArray, List.set_cons_zero, List.set_cons_succ]
      refine wpAnyH_take (i := 4) (oi := { dst := some 52, op := _, type := _, pos := _, after := _, guard := _ }) (v := .slice (some ⟨lb, lo, none⟩) l.length lc) rfl (by kernel_rfl) (by kernel_rfl) (by kernel_rfl) (fun _ _ _ h => h) (Or.inl ⟨by rfl, fun w' hSw => ?_⟩) (by assumption) ?_
      · ((try dsimp only at hSw); go_simp)
      try simp only [Act.put, List.setIfInBounds_toArray, List.set_cons_zero, List.set_cons_succ]
      refine wpAnyH_take (i := 5) (oi := { dst := some 53, op := _, type := _, pos := _, after := _, guard := _ }) (v := .int .i64 (i : Int)) rfl (by kernel_rfl) (by kernel_rfl) (by kernel_rfl) (fun _ _ _ h => h) (Or.inl ⟨by rfl, fun w' hSw => ?_⟩) (by assumption) ?_
      · ((try dsimp only at hSw); go_simp)
      try simp only [Act.put, List.setIfInBounds_toArray, List.set_cons_zero, List.set_cons_succ]
      refine wpAnyH_take (i := 6) (oi := { dst := some 54, op := _, type := _, pos := _, after := _, guard := _ }) (v := .int .i64 ((i : Int) + 1)) rfl (by kernel_rfl) (by kernel_rfl) (by kernel_rfl) (fun _ _ _ h => h) (Or.inl ⟨by rfl, fun w' hSw => ?_⟩) (by assumption) ?_
      · ((try dsimp only at hSw); go_simp)
      try simp only [Act.put, List.setIfInBounds_toArray, List.set_cons_zero, List.set_cons_succ]
      refine wpAnyH_take (i := 7) (oi := { dst := some 55, op := _, type := _, pos := _, after := _, guard := _ }) (v := .slice A5 (l.length - (i + 1)) (lc - (i + 1))) rfl (by kernel_rfl) (by kernel_rfl) (by kernel_rfl) (fun _ _ _ h => h) (Or.inl ⟨by rfl, fun w' hSw => ?_⟩) (by assumption) ?_
      · ((try dsimp only at hSw); go_simp)
      try simp only [Act.put, List.setIfInBounds_toArray, List.set_cons_zero, List.set_cons_succ]
      have XB0 := Lib.hid HDR.out
      generalize hwD : wr.drew = wD at *
      clear hwD HDR
      refine wpAnyH_ready (rs := [1]) (by kernel_rfl) (by simp) ?_
      refine AllReadyH.cons rfl (fun K hK => ?_) AllReadyH.nil
      have hax : Below wD.heap.size wD (wD.alloc (.cells #[.int .i64 x.kind, .string x.p, .string x.dst, .int .i64 x.at_, .slice x.a1 x.old.length x.c1, .slice x.a2 x.new.length x.c2] 33)) := (Below.refl _ _).alloc (Nat.le_refl _) _
      have HOW := Lib.hid (own_onep wD wD.heap.size x (Nat.le_refl _))
      have HAX := Lib.hid hax
      have XB1 := Lib.hid (XB0.out.trans (hax.mono XB0.out.size))
      clear hax
      go_simp
      refine hK.out _ _ (HKS.out _ XB1.out) (fun hHeld1 => ?_)
      clear hK K hHeld
      try simp only [Act.put, List.setIfInBounds_toArray, List.set_cons_zero, List.set_cons_succ]
      refine wpAnyH_ready (rs := [3]) (by kernel_rfl) (by simp) ?_
      refine AllReadyH.cons rfl (fun K hK => ?_) AllReadyH.nil
      refine step_append_prims 51 rfl rfl _ _ rfl wD.heap.size (.slice (some ⟨wD.heap.size, 0, none⟩) 1 1) [x] rfl HOW.out ss A2 n2 c2 rfl HJR.out.len HJR.out.room.1 (HJR.out.at_.on XB1.out) HAX.out.size (by simp only [List.length_cons, List.length_nil]; omega) N HN.out ?_
      intro A3 c3 w3 ho3 hg3
      have hb3 : Below wD.heap.size wD w3 := below_appendp HAX.out HOW.out hg3 (Nat.le_refl _)
      have HO3 : Hid (OwnP w3 wD.heap.size (.slice A3 N c3) (x :: ss)) := ho3
      have HB3 := Lib.hid hb3
      have XB3 := Lib.hid (XB0.out.trans (hb3.mono XB0.out.size))
      clear ho3 hg3 hb3
      refine hK.out _ _ (HKS.out _ XB3.out) (fun hHeld3 => ?_)
      clear hK K hHeld1
      try simp only [Act.put, List.setIfInBounds_toArray, List.set_cons_zero, List.set_cons_succ]
      refine wpAnyH_ready (rs := [8]) (by kernel_rfl) (by simp) ?_
      refine AllReadyH.cons rfl (fun K hK => ?_) AllReadyH.nil
      refine step_append_prims 56 rfl rfl _ _ rfl wD.heap.size (.slice A3 N c3) (x :: ss) rfl HO3.out (l.drop (i + 1)) A5 (l.length - (i + 1)) (lc - (i + 1)) rfl (by rw [List.length_drop]) HA5.out.2 (HA5.out.1.on (XBL.out.trans (XB3.out.mono XBL.out.size))) HB3.out.size (by simp only [List.length_cons, List.length_drop]; omega) M HM.out ?_
      intro A4 c4 w4 ho4 hg4
      have hb4 : Below wD.heap.size wD w4 := below_appendp HB3.out HO3.out hg4 (Nat.le_refl _)
      have XB4 := Lib.hid (XB0.out.trans (hb4.mono XB0.out.size))
      have HO4 : Hid (OwnP w4 wD.heap.size (.slice A4 M c4) (x :: ss ++ l.drop (i + 1))) := ho4
      clear ho4 hg4 hb4 HO3 HB3 HOW HAX
      refine hK.out _ _ (HKS.out _ XB4.out) (fun hHeld8 => ?_)
      clear hK K hHeld3
      try simp only [Act.put, List.setIfInBounds_toArray, List.set_cons_zero, List.set_cons_succ]
      refine wpAnyH_take (i := 9) (oi := { dst := some 4, op := _, type := _, pos := _, after := _, guard := _ }) (v := .slice A4 M c4) rfl (by kernel_rfl) (by kernel_rfl) (by kernel_rfl) (fun _ _ _ h => h) (Or.inl ⟨by rfl, fun w' hSw => ?_⟩) (by assumption) ?_
      · ((try dsimp only at hSw); go_simp)
      try simp only [Act.put, List.setIfInBounds_toArray, List.set_cons_zero, List.set_cons_succ]
      refine wpAnyH_take (i := 10) (oi := { dst := some 5, op := _, type := _, pos := _, after := _, guard := _ }) (v := .int .i64 0) rfl (by kernel_rfl) (by kernel_rfl) (by kernel_rfl) (fun _ _ _ h => h) (Or.inl ⟨by rfl, fun w' hSw => ?_⟩) (by assumption) ?_
      · ((try dsimp only at hSw); go_simp)
      try simp only [Act.put, List.setIfInBounds_toArray, List.set_cons_zero, List.set_cons_succ]
      refine wpAnyH_done (by kernel_rfl) ?_ _
      refine NoPanic.normal ?_
      have HBr := Lib.hid (Nat.le_trans HBW.out XBL.out.size)
      have hbB := XB4.out.mono HBr.out
      have HF : Hid (FrontB w B R8 (.returned (.tuple #[.slice A4 M c4, .int .i64 0])) w4) := by
        refine ⟨A4, M, c4, x :: ss ++ l.drop (i + 1), 0, rfl, ⟨RowB.of_own HO4.out (Nat.le_trans HBr.out XB4.out.size) (fun z hz => ?_), HRR.out⟩, XBL.out.trans (XB4.out.mono XBL.out.size)⟩
        rcases List.mem_append.1 hz with hz | hz
        · rcases List.mem_cons.1 hz with rfl | hz
          · exact HXK.out.below hbB
          · exact (HJR.out.ok z hz).below hbB
        · exact ((HS.out.ok z (List.mem_of_mem_drop hz)).below (XBL.out.mono HBW.out)).below hbB
      clear hbB HBr HO4 HRR HKS HXK HJ HJR
      go_wp2
      go_ret2
      exact HF.out
    · obtain ⟨j, rfl⟩ : ∃ j, k = j + 1 := ⟨k - 1, by omega⟩
      have hlt : j < l.length := by omega
      have hS := HS.out.on HBW.out HI.out.below
      obtain ⟨lb', lo', e, _, d0, d1, d2, d3, d4, d5⟩ := hS.at_.get hlt
      cases e
      obtain ⟨y, hy⟩ : ∃ y, l[j] = y := ⟨_, rfl⟩
      have hyB := hS.ok l[j] (List.getElem_mem _)
      have hyl := HL.out l[j] (List.getElem_mem _)
      have htk : ((pkeys l).take (j + 1)).reverse = y.key :: ((pkeys l).take j).reverse := by
        have h1 : j < (pkeys l).length := by rw [pkeys_len]; exact hlt
        rw [List.take_succ_eq_append_getElem h1, List.reverse_append]
        simp [pkeys, ← hy]
      rw [hy] at d0 d1 d2 d3 d4 d5 hyB hyl
      have HC2 := Lib.hid HC.out
      rw [htk] at HC2
      have CP := Lib.hid (fun W (hb : Below wr.heap.size wr W) => refpair8_any y x W B (Nat.le_trans (Nat.le_trans HBW.out HI.out.below.size) hb.size) (hyB.below (hb.mono (Nat.le_trans HBW.out HI.out.below.size))) (HI.out.xok.below (hb.mono (Nat.le_trans HBW.out HI.out.below.size))) hyl.wd HI.out.lt.wd (Tabs.on (Tabs.on HT.out HI.out.below) hb))
      have HKS : Hid (∀ W, Below wr.heap.size wr W → W.cell? ⟨w.heap.size, 0, none⟩ = some (.int .i64 x.kind) ∧ W.cell? ⟨w.heap.size, 1, none⟩ = some (.string x.p) ∧ W.cell? ⟨w.heap.size, 2, none⟩ = some (.string x.dst) ∧ W.cell? ⟨w.heap.size, 3, none⟩ = some (.int .i64 x.at_) ∧ W.cell? ⟨w.heap.size, 4, none⟩ = some (.slice x.a1 x.old.length x.c1) ∧ W.cell? ⟨w.heap.size, 5, none⟩ = some (.slice x.a2 x.new.length x.c2) ∧ W.cell? ⟨lb, lo + j * 6, none⟩ = some (.int .i64 y.kind) ∧ W.cell? ⟨lb, lo + j * 6 + 1, none⟩ = some (.string y.p) ∧ W.cell? ⟨lb, lo + j * 6 + 2, none⟩ = some (.string y.dst) ∧ W.cell? ⟨lb, lo + j * 6 + 3, none⟩ = some (.int .i64 y.at_) ∧ W.cell? ⟨lb, lo + j * 6 + 4, none⟩ = some (.slice y.a1 y.old.length y.c1) ∧ W.cell? ⟨lb, lo + j * 6 + 5, none⟩ = some (.slice y.a2 y.new.length y.c2)) := by
        intro W hW
        have q := HI.out.px.on hW
        exact ⟨q.c0, q.c1, q.c2, q.c3, q.c4, q.c5, cell_on d0 hW, cell_on d1 hW, cell_on d2 hW, cell_on d3 hW, cell_on d4 hW, cell_on d5 hW⟩
      have HDR : Hid (Below wr.heap.size wr wr.drew) := (Below.refl _ _).drew
      have v1 : (0 : Int) ≤ (j : Int) := by omega
      have v2 : (j : Int) < (l.length : Int) := by omega
      have hj64 : j ≤ 500 := by omega
      have HLY : Hid (LtK y.key) := hyl
      have HBW0 := Lib.hid HBW.out
      have HSZ : Hid (w.heap.size < wr.heap.size) := HI.out.px.lt
      have HBW : Hid (B ≤ wr.heap.size) := Nat.le_trans HBW.out HI.out.below.size
      have u3 : (((j + 1 : Nat) : Int)) - 1 = (j : Int) := by omega
      rw [u3]
      unfold Pm.val at CP
      clear d0 d1 d2 d3 d4 d5 hS hyB hyl htk hy HC u3
      go_upto_region 8 with (fail)
      go_cut [9, 10, 11] from 26 to 47 (fun pb pa pe wx => ∃ (gb ga : Nat) (b a : Pm) (er : Int), pb = .pointer (some ⟨gb, 0, none⟩) ∧ pa = .pointer (some ⟨ga, 0, none⟩) ∧ pe = .int .i64 er ∧ Hid (PrimAt wx gb b ∧ PrimAt wx ga a ∧ b.Ok wx B ∧ a.Ok wx B ∧ pairP y.key x.key = (er, b.key, a.key) ∧ wr.heap.size ≤ gb ∧ wr.heap.size ≤ ga ∧ Below wr.heap.size wr wx))
      case first =>
        clear HC2 HI HSZ HJ HFR
        refine wp_region_noPanic ?_
        refine wp_region_held_drew (S := (fun w' => w'.cell? ⟨w.heap.size, 0, none⟩ = some (.int .i64 x.kind) ∧ w'.cell? ⟨w.heap.size, 1, none⟩ = some (.string x.p) ∧ w'.cell? ⟨w.heap.size, 2, none⟩ = some (.string x.dst) ∧ w'.cell? ⟨w.heap.size, 3, none⟩ = some (.int .i64 x.at_) ∧ w'.cell? ⟨w.heap.size, 4, none⟩ = some (.slice x.a1 x.old.length x.c1) ∧ w'.cell? ⟨w.heap.size, 5, none⟩ = some (.slice x.a2 x.new.length x.c2) ∧ w'.cell? ⟨lb, lo + j * 6, none⟩ = some (.int .i64 y.kind) ∧ w'.cell? ⟨lb, lo + j * 6 + 1, none⟩ = some (.string y.p) ∧ w'.cell? ⟨lb, lo + j * 6 + 2, none⟩ = some (.string y.dst) ∧ w'.cell? ⟨lb, lo + j * 6 + 3, none⟩ = some (.int .i64 y.at_) ∧ w'.cell? ⟨lb, lo + j * 6 + 4, none⟩ = some (.slice y.a1 y.old.length y.c1) ∧ w'.cell? ⟨lb, lo + j * 6 + 5, none⟩ = some (.slice y.a2 y.new.length y.c2))) (by kernel_rfl) (HKS.out _ HDR.out) (fun hHeld => ?_)
        refine wpAnyH_take (i := 0) (oi := { dst := some 31, op := _, type := _, pos := _, after := _, guard := _ }) (v := .slice (some ⟨lb, lo, none⟩) l.length lc) rfl (by kernel_rfl) (by kernel_rfl) (by kernel_rfl) (fun _ _ _ h => h) (Or.inl ⟨by rfl, fun w' hSw => ?_⟩) (by assumption) ?_
        · ((try dsimp only at hSw); go_simp)
        try simp only [Act.put, List.setIfInBounds_toArray, List.set_cons_zero, List.set_cons_succ]
        refine wpAnyH_take (i := 1) (oi := { dst := some 32, op := _, type := _, pos := _, after := _, guard := _ }) (v := .int .i64 (j : Int)) rfl (by kernel_rfl) (by kernel_rfl) (by kernel_rfl) (fun _ _ _ h => h) (Or.inl ⟨by rfl, fun w' hSw => ?_⟩) (by assumption) ?_
        · ((try dsimp only at hSw); go_simp)
        try simp only [Act.put, List.setIfInBounds_toArray, List.set_cons_zero, List.set_cons_succ]
        refine wpAnyH_take (i := 2) (oi := { dst := some 33, op := _, type := _, pos := _, after := _, guard := _ }) (v := .pointer (some ⟨lb, lo + j * 6, none⟩)) rfl (by kernel_rfl) (by kernel_rfl) (by kernel_rfl) (fun _ _ _ h => h) (Or.inl ⟨by rfl, fun w' hSw => ?_⟩) (by assumption) ?_
        · ((try dsimp only at hSw); go_simp)
        try simp only [Act.put, List.setIfInBounds_toArray, List.set_cons_zero, List.set_cons_succ]
        refine wpAnyH_take (i := 3) (oi := { dst := some 34, op := _, type := _, pos := _, after := _, guard := _ }) (v := .agg #[.int .i64 y.kind, .string y.p, .string y.dst, .int .i64 y.at_, .slice y.a1 y.old.length y.c1, .slice y.a2 y.new.length y.c2]) rfl (by kernel_rfl) (by kernel_rfl) (by kernel_rfl) (fun _ _ _ h => h) (Or.inl ⟨by rfl, fun w' hSw => ?_⟩) (by assumption) ?_
        · ((try dsimp only at hSw); go_simp)
        try simp only [Act.put, List.setIfInBounds_toArray, List.set_cons_zero, List.set_cons_succ]
        refine wpAnyH_take (i := 4) (oi := { dst := some 35, op := _, type := _, pos := _, after := _, guard := _ }) (v := .agg #[.int .i64 x.kind, .string x.p, .string x.dst, .int .i64 x.at_, .slice x.a1 x.old.length x.c1, .slice x.a2 x.new.length x.c2]) rfl (by kernel_rfl) (by kernel_rfl) (by kernel_rfl) (fun _ _ _ h => h) (Or.inl ⟨by rfl, fun w' hSw => ?_⟩) (by assumption) ?_
        · ((try dsimp only at hSw); go_simp)
        try simp only [Act.put, List.setIfInBounds_toArray, List.set_cons_zero, List.set_cons_succ]
        have XB0 := Lib.hid HDR.out
        generalize hwD : wr.drew = wD at *
        clear hwD HDR
        refine wpAnyH_ready (rs := [5, 10, 11]) (by kernel_rfl) (by simp) ?_
        refine AllReadyH.cons rfl (fun K hK => ?_) (AllReadyH.cons rfl (fun K hK => ?_) (AllReadyH.cons rfl (fun K hK => ?_) AllReadyH.nil))
        · go_simp
          go_at_call 26
          refine (CP.out _ XB0.out).mono ?_
          rintro e wc1 ⟨b, a, er, rfl, hp, hb⟩
          have XC1 := Lib.hid (XB0.out.trans (hb.mono XB0.out.size))
          have HOb := Lib.hid hp.out.1
          have HOa := Lib.hid hp.out.2.1
          have HKP := Lib.hid hp.out.2.2
          clear hb hp
          refine hK.out _ _ (HKS.out _ XC1.out) (fun hHeld5 => ?_)
          clear hK K hHeld
          try simp only [Act.put, List.setIfInBounds_toArray, List.set_cons_zero, List.set_cons_succ]
          refine wpAnyH_take (i := 6) (oi := { dst := some 30, op := _, type := _, pos := _, after := _, guard := _ }) (v := .tuple #[.agg #[.int .i64 b.kind, .string b.p, .string b.dst, .int .i64 b.at_, .slice b.a1 b.old.length b.c1, .slice b.a2 b.new.length b.c2], .agg #[.int .i64 a.kind, .string a.p, .string a.dst, .int .i64 a.at_, .slice a.a1 a.old.length a.c1, .slice a.a2 a.new.length a.c2], .int .i64 er]) rfl (by kernel_rfl) (by kernel_rfl) (by kernel_rfl) (fun _ _ _ h => h) (Or.inl ⟨by rfl, fun w' hSw => ?_⟩) (by assumption) ?_
          · ((try dsimp only at hSw); go_simp)
          try simp only [Act.put, List.setIfInBounds_toArray, List.set_cons_zero, List.set_cons_succ]
          refine wpAnyH_take (i := 7) (oi := { dst := some 37, op := _, type := _, pos := _, after := _, guard := _ }) (v := .agg #[.int .i64 b.kind, .string b.p, .string b.dst, .int .i64 b.at_, .slice b.a1 b.old.length b.c1, .slice b.a2 b.new.length b.c2]) rfl (by kernel_rfl) (by kernel_rfl) (by kernel_rfl) (fun _ _ _ h => h) (Or.inl ⟨by rfl, fun w' hSw => ?_⟩) (by assumption) ?_
          · ((try dsimp only at hSw); go_simp)
          try simp only [Act.put, List.setIfInBounds_toArray, List.set_cons_zero, List.set_cons_succ]
          refine wpAnyH_take (i := 8) (oi := { dst := some 38, op := _, type := _, pos := _, after := _, guard := _ }) (v := .agg #[.int .i64 a.kind, .string a.p, .string a.dst, .int .i64 a.at_, .slice a.a1 a.old.length a.c1, .slice a.a2 a.new.length a.c2]) rfl (by kernel_rfl) (by kernel_rfl) (by kernel_rfl) (fun _ _ _ h => h) (Or.inl ⟨by rfl, fun w' hSw => ?_⟩) (by assumption) ?_
          · ((try dsimp only at hSw); go_simp)
          try simp only [Act.put, List.setIfInBounds_toArray, List.set_cons_zero, List.set_cons_succ]
          refine wpAnyH_take (i := 9) (oi := { dst := some 39, op := _, type := _, pos := _, after := _, guard := _ }) (v := .int .i64 er) rfl (by kernel_rfl) (by kernel_rfl) (by kernel_rfl) (fun _ _ _ h => h) (Or.inl ⟨by rfl, fun w' hSw => ?_⟩) (by assumption) ?_
          · ((try dsimp only at hSw); go_simp)
          try simp only [Act.put, List.setIfInBounds_toArray, List.set_cons_zero, List.set_cons_succ]
          refine wpAnyH_ready (rs := [10, 11]) (by kernel_rfl) (by simp) ?_
          refine AllReadyH.cons rfl (fun K hK => ?_) (AllReadyH.cons rfl (fun K hK => ?_) AllReadyH.nil)
          · have hb : Below wc1.heap.size wc1 (wc1.alloc (.cells #[.int .i64 0, .string ⟨#[]⟩, .string ⟨#[]⟩, .int .i64 0, .slice none 0 0, .slice none 0 0] 33)) := (Below.refl _ _).alloc (Nat.le_refl _) _
            have XA2 := Lib.hid (XC1.out.trans (hb.mono XC1.out.size))
            have hbB := hb.mono (Nat.le_trans HBW.out XC1.out.size)
            replace HOb := Lib.hid (HOb.out.below hbB)
            replace HOa := Lib.hid (HOa.out.below hbB)
            clear hbB
            have HGb : Hid (PrimAt (wc1.alloc (.cells #[.int .i64 0, .string ⟨#[]⟩, .string ⟨#[]⟩, .int .i64 0, .slice none 0 0, .slice none 0 0] 33)) wc1.heap.size ⟨0, ⟨#[]⟩, ⟨#[]⟩, 0, none, 0, [], none, 0, []⟩) := PrimAt.new_ wc1 ⟨0, ⟨#[]⟩, ⟨#[]⟩, 0, none, 0, [], none, 0, []⟩
            have HLb : Hid (wr.heap.size ≤ wc1.heap.size) := XC1.out.size
            clear hb
            go_simp
            refine hK.out _ _ (HKS.out _ XA2.out) (fun hHeld10 => ?_)
            clear hK K hHeld5
            try simp only [Act.put, List.setIfInBounds_toArray, List.set_cons_zero, List.set_cons_succ]
            generalize hwn : (wc1.alloc (.cells #[.int .i64 0, .string ⟨#[]⟩, .string ⟨#[]⟩, .int .i64 0, .slice none 0 0, .slice none 0 0] 33)) = wa2 at *
            clear hwn
            refine wpAnyH_ready (rs := [11]) (by kernel_rfl) (by simp) ?_
            refine AllReadyH.cons rfl (fun K hK => ?_) AllReadyH.nil
            · have HNE : Hid (wc1.heap.size ≠ wa2.heap.size) := by show _ ≠ _; have h1 := HGb.out.lt; omega
              have hb : Below wa2.heap.size wa2 (wa2.alloc (.cells #[.int .i64 0, .string ⟨#[]⟩, .string ⟨#[]⟩, .int .i64 0, .slice none 0 0, .slice none 0 0] 33)) := (Below.refl _ _).alloc (Nat.le_refl _) _
              have XA3 := Lib.hid (XA2.out.trans (hb.mono XA2.out.size))
              replace HGb := Lib.hid (HGb.out.on hb)
              have hbB := hb.mono (Nat.le_trans HBW.out XA2.out.size)
              replace HOb := Lib.hid (HOb.out.below hbB)
              replace HOa := Lib.hid (HOa.out.below hbB)
              clear hbB
              have HGa : Hid (PrimAt (wa2.alloc (.cells #[.int .i64 0, .string ⟨#[]⟩, .string ⟨#[]⟩, .int .i64 0, .slice none 0 0, .slice none 0 0] 33)) wa2.heap.size ⟨0, ⟨#[]⟩, ⟨#[]⟩, 0, none, 0, [], none, 0, []⟩) := PrimAt.new_ wa2 ⟨0, ⟨#[]⟩, ⟨#[]⟩, 0, none, 0, [], none, 0, []⟩
              have HLa : Hid (wr.heap.size ≤ wa2.heap.size) := XA2.out.size
              clear hb
              go_simp
              refine hK.out _ _ (HKS.out _ XA3.out) (fun hHeld11 => ?_)
              clear hK K hHeld10
              try simp only [Act.put, List.setIfInBounds_toArray, List.set_cons_zero, List.set_cons_succ]
              generalize hwn : (wa2.alloc (.cells #[.int .i64 0, .string ⟨#[]⟩, .string ⟨#[]⟩, .int .i64 0, .slice none 0 0, .slice none 0 0] 33)) = wa3 at *
              clear hwn
              refine wpAnyH_ready (rs := [12]) (by kernel_rfl) (by simp) ?_
              refine AllReadyH.cons rfl (fun K hK => ?_) AllReadyH.nil
              have m0 := HGb.out.c0
              have mf0 := HGb.out.fz 0
              have m1 := HGb.out.c1
              have mf1 := HGb.out.fz 1
              have m2 := HGb.out.c2
              have mf2 := HGb.out.fz 2
              have m3 := HGb.out.c3
              have mf3 := HGb.out.fz 3
              have m4 := HGb.out.c4
              have mf4 := HGb.out.fz 4
              have m5 := HGb.out.c5
              have mf5 := HGb.out.fz 5
              have g1 : wa3.grownBy ((((((wa3.setCell ⟨wc1.heap.size, 0, none⟩ (.int .i64 b.kind)).setCell ⟨wc1.heap.size, 1, none⟩ (.string b.p)).setCell ⟨wc1.heap.size, 2, none⟩ (.string b.dst)).setCell ⟨wc1.heap.size, 3, none⟩ (.int .i64 b.at_)).setCell ⟨wc1.heap.size, 4, none⟩ (.slice b.a1 b.old.length b.c1)).setCell ⟨wc1.heap.size, 5, none⟩ (.slice b.a2 b.new.length b.c2)) (some wc1.heap.size) := setPrim_grown wa3 wc1.heap.size b
              have hbs : Below wr.heap.size wr ((((((wa3.setCell ⟨wc1.heap.size, 0, none⟩ (.int .i64 b.kind)).setCell ⟨wc1.heap.size, 1, none⟩ (.string b.p)).setCell ⟨wc1.heap.size, 2, none⟩ (.string b.dst)).setCell ⟨wc1.heap.size, 3, none⟩ (.int .i64 b.at_)).setCell ⟨wc1.heap.size, 4, none⟩ (.slice b.a1 b.old.length b.c1)).setCell ⟨wc1.heap.size, 5, none⟩ (.slice b.a2 b.new.length b.c2)) := below_prim b XA3.out HLb.out XA3.out.size
              have hB1 : Below B wa3 ((((((wa3.setCell ⟨wc1.heap.size, 0, none⟩ (.int .i64 b.kind)).setCell ⟨wc1.heap.size, 1, none⟩ (.string b.p)).setCell ⟨wc1.heap.size, 2, none⟩ (.string b.dst)).setCell ⟨wc1.heap.size, 3, none⟩ (.int .i64 b.at_)).setCell ⟨wc1.heap.size, 4, none⟩ (.slice b.a1 b.old.length b.c1)).setCell ⟨wc1.heap.size, 5, none⟩ (.slice b.a2 b.new.length b.c2)) := below_prim b (Below.refl B wa3) (Nat.le_trans HBW.out HLb.out) (Nat.le_trans HBW.out XA3.out.size)
              have hPb : PrimAt ((((((wa3.setCell ⟨wc1.heap.size, 0, none⟩ (.int .i64 b.kind)).setCell ⟨wc1.heap.size, 1, none⟩ (.string b.p)).setCell ⟨wc1.heap.size, 2, none⟩ (.string b.dst)).setCell ⟨wc1.heap.size, 3, none⟩ (.int .i64 b.at_)).setCell ⟨wc1.heap.size, 4, none⟩ (.slice b.a1 b.old.length b.c1)).setCell ⟨wc1.heap.size, 5, none⟩ (.slice b.a2 b.new.length b.c2)) (wc1.heap.size) b := setPrim_at HGb.out b
              have hPa : PrimAt ((((((wa3.setCell ⟨wc1.heap.size, 0, none⟩ (.int .i64 b.kind)).setCell ⟨wc1.heap.size, 1, none⟩ (.string b.p)).setCell ⟨wc1.heap.size, 2, none⟩ (.string b.dst)).setCell ⟨wc1.heap.size, 3, none⟩ (.int .i64 b.at_)).setCell ⟨wc1.heap.size, 4, none⟩ (.slice b.a1 b.old.length b.c1)).setCell ⟨wc1.heap.size, 5, none⟩ (.slice b.a2 b.new.length b.c2)) (wa2.heap.size) ⟨0, ⟨#[]⟩, ⟨#[]⟩, 0, none, 0, [], none, 0, []⟩ := HGa.out.grown g1 (by simpa using HNE.out)
              have XBs := Lib.hid hbs
              have HPb := Lib.hid hPb
              replace HGa := Lib.hid hPa
              replace HOb := Lib.hid (HOb.out.below hB1)
              replace HOa := Lib.hid (HOa.out.below hB1)
              clear g1 hbs hB1 hPb hPa HGb
              go_simp
              refine hK.out _ _ (HKS.out _ XBs.out) (fun hHeld12 => ?_)
              clear hK K hHeld11 m0 mf0 m1 mf1 m2 mf2 m3 mf3 m4 mf4 m5 mf5
              try simp only [Act.put, List.setIfInBounds_toArray, List.set_cons_zero, List.set_cons_succ]
              generalize hwn : ((((((wa3.setCell ⟨wc1.heap.size, 0, none⟩ (.int .i64 b.kind)).setCell ⟨wc1.heap.size, 1, none⟩ (.string b.p)).setCell ⟨wc1.heap.size, 2, none⟩ (.string b.dst)).setCell ⟨wc1.heap.size, 3, none⟩ (.int .i64 b.at_)).setCell ⟨wc1.heap.size, 4, none⟩ (.slice b.a1 b.old.length b.c1)).setCell ⟨wc1.heap.size, 5, none⟩ (.slice b.a2 b.new.length b.c2)) = ws at *
              clear hwn
              refine wpAnyH_ready (rs := [13]) (by kernel_rfl) (by simp) ?_
              refine AllReadyH.cons rfl (fun K hK => ?_) AllReadyH.nil
              have m0 := HGa.out.c0
              have mf0 := HGa.out.fz 0
              have m1 := HGa.out.c1
              have mf1 := HGa.out.fz 1
              have m2 := HGa.out.c2
              have mf2 := HGa.out.fz 2
              have m3 := HGa.out.c3
              have mf3 := HGa.out.fz 3
              have m4 := HGa.out.c4
              have mf4 := HGa.out.fz 4
              have m5 := HGa.out.c5
              have mf5 := HGa.out.fz 5
              have g1 : ws.grownBy ((((((ws.setCell ⟨wa2.heap.size, 0, none⟩ (.int .i64 a.kind)).setCell ⟨wa2.heap.size, 1, none⟩ (.string a.p)).setCell ⟨wa2.heap.size, 2, none⟩ (.string a.dst)).setCell ⟨wa2.heap.size, 3, none⟩ (.int .i64 a.at_)).setCell ⟨wa2.heap.size, 4, none⟩ (.slice a.a1 a.old.length a.c1)).setCell ⟨wa2.heap.size, 5, none⟩ (.slice a.a2 a.new.length a.c2)) (some wa2.heap.size) := setPrim_grown ws wa2.heap.size a
              have hbs : Below wr.heap.size wr ((((((ws.setCell ⟨wa2.heap.size, 0, none⟩ (.int .i64 a.kind)).setCell ⟨wa2.heap.size, 1, none⟩ (.string a.p)).setCell ⟨wa2.heap.size, 2, none⟩ (.string a.dst)).setCell ⟨wa2.heap.size, 3, none⟩ (.int .i64 a.at_)).setCell ⟨wa2.heap.size, 4, none⟩ (.slice a.a1 a.old.length a.c1)).setCell ⟨wa2.heap.size, 5, none⟩ (.slice a.a2 a.new.length a.c2)) := below_prim a XBs.out HLa.out XBs.out.size
              have hB1 : Below B ws ((((((ws.setCell ⟨wa2.heap.size, 0, none⟩ (.int .i64 a.kind)).setCell ⟨wa2.heap.size, 1, none⟩ (.string a.p)).setCell ⟨wa2.heap.size, 2, none⟩ (.string a.dst)).setCell ⟨wa2.heap.size, 3, none⟩ (.int .i64 a.at_)).setCell ⟨wa2.heap.size, 4, none⟩ (.slice a.a1 a.old.length a.c1)).setCell ⟨wa2.heap.size, 5, none⟩ (.slice a.a2 a.new.length a.c2)) := below_prim a (Below.refl B ws) (Nat.le_trans HBW.out HLa.out) (Nat.le_trans HBW.out XBs.out.size)
              have hPa : PrimAt ((((((ws.setCell ⟨wa2.heap.size, 0, none⟩ (.int .i64 a.kind)).setCell ⟨wa2.heap.size, 1, none⟩ (.string a.p)).setCell ⟨wa2.heap.size, 2, none⟩ (.string a.dst)).setCell ⟨wa2.heap.size, 3, none⟩ (.int .i64 a.at_)).setCell ⟨wa2.heap.size, 4, none⟩ (.slice a.a1 a.old.length a.c1)).setCell ⟨wa2.heap.size, 5, none⟩ (.slice a.a2 a.new.length a.c2)) (wa2.heap.size) a := setPrim_at HGa.out a
              have hPb : PrimAt ((((((ws.setCell ⟨wa2.heap.size, 0, none⟩ (.int .i64 a.kind)).setCell ⟨wa2.heap.size, 1, none⟩ (.string a.p)).setCell ⟨wa2.heap.size, 2, none⟩ (.string a.dst)).setCell ⟨wa2.heap.size, 3, none⟩ (.int .i64 a.at_)).setCell ⟨wa2.heap.size, 4, none⟩ (.slice a.a1 a.old.length a.c1)).setCell ⟨wa2.heap.size, 5, none⟩ (.slice a.a2 a.new.length a.c2)) (wc1.heap.size) b := HPb.out.grown g1 (by simpa using Ne.symm HNE.out)
              have XBt := Lib.hid hbs
              replace HPb := Lib.hid hPb
              have HPa := Lib.hid hPa
              replace HOb := Lib.hid (HOb.out.below hB1)
              replace HOa := Lib.hid (HOa.out.below hB1)
              clear g1 hbs hB1 hPb hPa HGa
              go_simp
              refine hK.out _ _ (HKS.out _ XBt.out) (fun hHeld13 => ?_)
              clear hK K hHeld12 m0 mf0 m1 mf1 m2 mf2 m3 mf3 m4 mf4 m5 mf5
              try simp only [Act.put, List.setIfInBounds_toArray, List.set_cons_zero, List.set_cons_succ]
              generalize hwn : ((((((ws.setCell ⟨wa2.heap.size, 0, none⟩ (.int .i64 a.kind)).setCell ⟨wa2.heap.size, 1, none⟩ (.string a.p)).setCell ⟨wa2.heap.size, 2, none⟩ (.string a.dst)).setCell ⟨wa2.heap.size, 3, none⟩ (.int .i64 a.at_)).setCell ⟨wa2.heap.size, 4, none⟩ (.slice a.a1 a.old.length a.c1)).setCell ⟨wa2.heap.size, 5, none⟩ (.slice a.a2 a.new.length a.c2)) = wt at *
              clear hwn
              refine wpAnyH_take (i := 14) (oi := { dst := some 11, op := _, type := _, pos := _, after := _, guard := _ }) (v := .int .i64 er) rfl (by kernel_rfl) (by kernel_rfl) (by kernel_rfl) (fun _ _ _ h => h) (Or.inl ⟨by rfl, fun w' hSw => ?_⟩) (by assumption) ?_
              · ((try dsimp only at hSw); go_simp)
              try simp only [Act.put, List.setIfInBounds_toArray, List.set_cons_zero, List.set_cons_succ]
              refine wpAnyH_done (by kernel_rfl) ?_ _
              refine NoPanic.normal ?_
              go_wp2_with fail
              go_meet
              case rel => exact ⟨wc1.heap.size, wa2.heap.size, b, a, er, rfl, rfl, rfl, ⟨HPb.out, HPa.out, HOb.out, HOa.out, HKP.out, HLb.out, HLa.out, XBt.out⟩⟩
          · have hb : Below wc1.heap.size wc1 (wc1.alloc (.cells #[.int .i64 0, .string ⟨#[]⟩, .string ⟨#[]⟩, .int .i64 0, .slice none 0 0, .slice none 0 0] 33)) := (Below.refl _ _).alloc (Nat.le_refl _) _
            have XA4 := Lib.hid (XC1.out.trans (hb.mono XC1.out.size))
            have hbB := hb.mono (Nat.le_trans HBW.out XC1.out.size)
            replace HOb := Lib.hid (HOb.out.below hbB)
            replace HOa := Lib.hid (HOa.out.below hbB)
            clear hbB
            have HGa : Hid (PrimAt (wc1.alloc (.cells #[.int .i64 0, .string ⟨#[]⟩, .string ⟨#[]⟩, .int .i64 0, .slice none 0 0, .slice none 0 0] 33)) wc1.heap.size ⟨0, ⟨#[]⟩, ⟨#[]⟩, 0, none, 0, [], none, 0, []⟩) := PrimAt.new_ wc1 ⟨0, ⟨#[]⟩, ⟨#[]⟩, 0, none, 0, [], none, 0, []⟩
            have HLa : Hid (wr.heap.size ≤ wc1.heap.size) := XC1.out.size
            clear hb
            go_simp
            refine hK.out _ _ (HKS.out _ XA4.out) (fun hHeld11 => ?_)
            clear hK K hHeld5
            try simp only [Act.put, List.setIfInBounds_toArray, List.set_cons_zero, List.set_cons_succ]
            generalize hwn : (wc1.alloc (.cells #[.int .i64 0, .string ⟨#[]⟩, .string ⟨#[]⟩, .int .i64 0, .slice none 0 0, .slice none 0 0] 33)) = wa4 at *
            clear hwn
            refine wpAnyH_ready (rs := [10]) (by kernel_rfl) (by simp) ?_
            refine AllReadyH.cons rfl (fun K hK => ?_) AllReadyH.nil
            · have HNE : Hid (wa4.heap.size ≠ wc1.heap.size) := by show _ ≠ _; have h1 := HGa.out.lt; omega
              have hb : Below wa4.heap.size wa4 (wa4.alloc (.cells #[.int .i64 0, .string ⟨#[]⟩, .string ⟨#[]⟩, .int .i64 0, .slice none 0 0, .slice none 0 0] 33)) := (Below.refl _ _).alloc (Nat.le_refl _) _
              have XA5 := Lib.hid (XA4.out.trans (hb.mono XA4.out.size))
              replace HGa := Lib.hid (HGa.out.on hb)
              have hbB := hb.mono (Nat.le_trans HBW.out XA4.out.size)
              replace HOb := Lib.hid (HOb.out.below hbB)
              replace HOa := Lib.hid (HOa.out.below hbB)
              clear hbB
              have HGb : Hid (PrimAt (wa4.alloc (.cells #[.int .i64 0, .string ⟨#[]⟩, .string ⟨#[]⟩, .int .i64 0, .slice none 0 0, .slice none 0 0] 33)) wa4.heap.size ⟨0, ⟨#[]⟩, ⟨#[]⟩, 0, none, 0, [], none, 0, []⟩) := PrimAt.new_ wa4 ⟨0, ⟨#[]⟩, ⟨#[]⟩, 0, none, 0, [], none, 0, []⟩
              have HLb : Hid (wr.heap.size ≤ wa4.heap.size) := XA4.out.size
              clear hb
              go_simp
              refine hK.out _ _ (HKS.out _ XA5.out) (fun hHeld10 => ?_)
              clear hK K hHeld11
              try simp only [Act.put, List.setIfInBounds_toArray, List.set_cons_zero, List.set_cons_succ]
              generalize hwn : (wa4.alloc (.cells #[.int .i64 0, .string ⟨#[]⟩, .string ⟨#[]⟩, .int .i64 0, .slice none 0 0, .slice none 0 0] 33)) = wa5 at *
              clear hwn
              refine wpAnyH_ready (rs := [12]) (by kernel_rfl) (by simp) ?_
              refine AllReadyH.cons rfl (fun K hK => ?_) AllReadyH.nil
              have m0 := HGb.out.c0
              have mf0 := HGb.out.fz 0
              have m1 := HGb.out.c1
              have mf1 := HGb.out.fz 1
              have m2 := HGb.out.c2
              have mf2 := HGb.out.fz 2
              have m3 := HGb.out.c3
              have mf3 := HGb.out.fz 3
              have m4 := HGb.out.c4
              have mf4 := HGb.out.fz 4
              have m5 := HGb.out.c5
              have mf5 := HGb.out.fz 5
              have g1 : wa5.grownBy ((((((wa5.setCell ⟨wa4.heap.size, 0, none⟩ (.int .i64 b.kind)).setCell ⟨wa4.heap.size, 1, none⟩ (.string b.p)).setCell ⟨wa4.heap.size, 2, none⟩ (.string b.dst)).setCell ⟨wa4.heap.size, 3, none⟩ (.int .i64 b.at_)).setCell ⟨wa4.heap.size, 4, none⟩ (.slice b.a1 b.old.length b.c1)).setCell ⟨wa4.heap.size, 5, none⟩ (.slice b.a2 b.new.length b.c2)) (some wa4.heap.size) := setPrim_grown wa5 wa4.heap.size b
              have hbs : Below wr.heap.size wr ((((((wa5.setCell ⟨wa4.heap.size, 0, none⟩ (.int .i64 b.kind)).setCell ⟨wa4.heap.size, 1, none⟩ (.string b.p)).setCell ⟨wa4.heap.size, 2, none⟩ (.string b.dst)).setCell ⟨wa4.heap.size, 3, none⟩ (.int .i64 b.at_)).setCell ⟨wa4.heap.size, 4, none⟩ (.slice b.a1 b.old.length b.c1)).setCell ⟨wa4.heap.size, 5, none⟩ (.slice b.a2 b.new.length b.c2)) := below_prim b XA5.out HLb.out XA5.out.size
              have hB1 : Below B wa5 ((((((wa5.setCell ⟨wa4.heap.size, 0, none⟩ (.int .i64 b.kind)).setCell ⟨wa4.heap.size, 1, none⟩ (.string b.p)).setCell ⟨wa4.heap.size, 2, none⟩ (.string b.dst)).setCell ⟨wa4.heap.size, 3, none⟩ (.int .i64 b.at_)).setCell ⟨wa4.heap.size, 4, none⟩ (.slice b.a1 b.old.length b.c1)).setCell ⟨wa4.heap.size, 5, none⟩ (.slice b.a2 b.new.length b.c2)) := below_prim b (Below.refl B wa5) (Nat.le_trans HBW.out HLb.out) (Nat.le_trans HBW.out XA5.out.size)
              have hPb : PrimAt ((((((wa5.setCell ⟨wa4.heap.size, 0, none⟩ (.int .i64 b.kind)).setCell ⟨wa4.heap.size, 1, none⟩ (.string b.p)).setCell ⟨wa4.heap.size, 2, none⟩ (.string b.dst)).setCell ⟨wa4.heap.size, 3, none⟩ (.int .i64 b.at_)).setCell ⟨wa4.heap.size, 4, none⟩ (.slice b.a1 b.old.length b.c1)).setCell ⟨wa4.heap.size, 5, none⟩ (.slice b.a2 b.new.length b.c2)) (wa4.heap.size) b := setPrim_at HGb.out b
              have hPa : PrimAt ((((((wa5.setCell ⟨wa4.heap.size, 0, none⟩ (.int .i64 b.kind)).setCell ⟨wa4.heap.size, 1, none⟩ (.string b.p)).setCell ⟨wa4.heap.size, 2, none⟩ (.string b.dst)).setCell ⟨wa4.heap.size, 3, none⟩ (.int .i64 b.at_)).setCell ⟨wa4.heap.size, 4, none⟩ (.slice b.a1 b.old.length b.c1)).setCell ⟨wa4.heap.size, 5, none⟩ (.slice b.a2 b.new.length b.c2)) (wc1.heap.size) ⟨0, ⟨#[]⟩, ⟨#[]⟩, 0, none, 0, [], none, 0, []⟩ := HGa.out.grown g1 (by simpa using HNE.out)
              have XBs := Lib.hid hbs
              have HPb := Lib.hid hPb
              replace HGa := Lib.hid hPa
              replace HOb := Lib.hid (HOb.out.below hB1)
              replace HOa := Lib.hid (HOa.out.below hB1)
              clear g1 hbs hB1 hPb hPa HGb
              go_simp
              refine hK.out _ _ (HKS.out _ XBs.out) (fun hHeld12 => ?_)
              clear hK K hHeld10 m0 mf0 m1 mf1 m2 mf2 m3 mf3 m4 mf4 m5 mf5
              try simp only [Act.put, List.setIfInBounds_toArray, List.set_cons_zero, List.set_cons_succ]
              generalize hwn : ((((((wa5.setCell ⟨wa4.heap.size, 0, none⟩ (.int .i64 b.kind)).setCell ⟨wa4.heap.size, 1, none⟩ (.string b.p)).setCell ⟨wa4.heap.size, 2, none⟩ (.string b.dst)).setCell ⟨wa4.heap.size, 3, none⟩ (.int .i64 b.at_)).setCell ⟨wa4.heap.size, 4, none⟩ (.slice b.a1 b.old.length b.c1)).setCell ⟨wa4.heap.size, 5, none⟩ (.slice b.a2 b.new.length b.c2)) = ws at *
              clear hwn
              refine wpAnyH_ready (rs := [13]) (by kernel_rfl) (by simp) ?_
              refine AllReadyH.cons rfl (fun K hK => ?_) AllReadyH.nil
              have m0 := HGa.out.c0
              have mf0 := HGa.out.fz 0
              have m1 := HGa.out.c1
              have mf1 := HGa.out.fz 1
              have m2 := HGa.out.c2
              have mf2 := HGa.out.fz 2
              have m3 := HGa.out.c3
              have mf3 := HGa.out.fz 3
              have m4 := HGa.out.c4
              have mf4 := HGa.out.fz 4
              have m5 := HGa.out.c5
              have mf5 := HGa.out.fz 5
              have g1 : ws.grownBy ((((((ws.setCell ⟨wc1.heap.size, 0, none⟩ (.int .i64 a.kind)).setCell ⟨wc1.heap.size, 1, none⟩ (.string a.p)).setCell ⟨wc1.heap.size, 2, none⟩ (.string a.dst)).setCell ⟨wc1.heap.size, 3, none⟩ (.int .i64 a.at_)).setCell ⟨wc1.heap.size, 4, none⟩ (.slice a.a1 a.old.length a.c1)).setCell ⟨wc1.heap.size, 5, none⟩ (.slice a.a2 a.new.length a.c2)) (some wc1.heap.size) := setPrim_grown ws wc1.heap.size a
              have hbs : Below wr.heap.size wr ((((((ws.setCell ⟨wc1.heap.size, 0, none⟩ (.int .i64 a.kind)).setCell ⟨wc1.heap.size, 1, none⟩ (.string a.p)).setCell ⟨wc1.heap.size, 2, none⟩ (.string a.dst)).setCell ⟨wc1.heap.size, 3, none⟩ (.int .i64 a.at_)).setCell ⟨wc1.heap.size, 4, none⟩ (.slice a.a1 a.old.length a.c1)).setCell ⟨wc1.heap.size, 5, none⟩ (.slice a.a2 a.new.length a.c2)) := below_prim a XBs.out HLa.out XBs.out.size
              have hB1 : Below B ws ((((((ws.setCell ⟨wc1.heap.size, 0, none⟩ (.int .i64 a.kind)).setCell ⟨wc1.heap.size, 1, none⟩ (.string a.p)).setCell ⟨wc1.heap.size, 2, none⟩ (.string a.dst)).setCell ⟨wc1.heap.size, 3, none⟩ (.int .i64 a.at_)).setCell ⟨wc1.heap.size, 4, none⟩ (.slice a.a1 a.old.length a.c1)).setCell ⟨wc1.heap.size, 5, none⟩ (.slice a.a2 a.new.length a.c2)) := below_prim a (Below.refl B ws) (Nat.le_trans HBW.out HLa.out) (Nat.le_trans HBW.out XBs.out.size)
              have hPa : PrimAt ((((((ws.setCell ⟨wc1.heap.size, 0, none⟩ (.int .i64 a.kind)).setCell ⟨wc1.heap.size, 1, none⟩ (.string a.p)).setCell ⟨wc1.heap.size, 2, none⟩ (.string a.dst)).setCell ⟨wc1.heap.size, 3, none⟩ (.int .i64 a.at_)).setCell ⟨wc1.heap.size, 4, none⟩ (.slice a.a1 a.old.length a.c1)).setCell ⟨wc1.heap.size, 5, none⟩ (.slice a.a2 a.new.length a.c2)) (wc1.heap.size) a := setPrim_at HGa.out a
              have hPb : PrimAt ((((((ws.setCell ⟨wc1.heap.size, 0, none⟩ (.int .i64 a.kind)).setCell ⟨wc1.heap.size, 1, none⟩ (.string a.p)).setCell ⟨wc1.heap.size, 2, none⟩ (.string a.dst)).setCell ⟨wc1.heap.size, 3, none⟩ (.int .i64 a.at_)).setCell ⟨wc1.heap.size, 4, none⟩ (.slice a.a1 a.old.length a.c1)).setCell ⟨wc1.heap.size, 5, none⟩ (.slice a.a2 a.new.length a.c2)) (wa4.heap.size) b := HPb.out.grown g1 (by simpa using Ne.symm HNE.out)
              have XBt := Lib.hid hbs
              replace HPb := Lib.hid hPb
              have HPa := Lib.hid hPa
              replace HOb := Lib.hid (HOb.out.below hB1)
              replace HOa := Lib.hid (HOa.out.below hB1)
              clear g1 hbs hB1 hPb hPa HGa
              go_simp
              refine hK.out _ _ (HKS.out _ XBt.out) (fun hHeld13 => ?_)
              clear hK K hHeld12 m0 mf0 m1 mf1 m2 mf2 m3 mf3 m4 mf4 m5 mf5
              try simp only [Act.put, List.setIfInBounds_toArray, List.set_cons_zero, List.set_cons_succ]
              generalize hwn : ((((((ws.setCell ⟨wc1.heap.size, 0, none⟩ (.int .i64 a.kind)).setCell ⟨wc1.heap.size, 1, none⟩ (.string a.p)).setCell ⟨wc1.heap.size, 2, none⟩ (.string a.dst)).setCell ⟨wc1.heap.size, 3, none⟩ (.int .i64 a.at_)).setCell ⟨wc1.heap.size, 4, none⟩ (.slice a.a1 a.old.length a.c1)).setCell ⟨wc1.heap.size, 5, none⟩ (.slice a.a2 a.new.length a.c2)) = wt at *
              clear hwn
              refine wpAnyH_take (i := 14) (oi := { dst := some 11, op := _, type := _, pos := _, after := _, guard := _ }) (v := .int .i64 er) rfl (by kernel_rfl) (by kernel_rfl) (by kernel_rfl) (fun _ _ _ h => h) (Or.inl ⟨by rfl, fun w' hSw => ?_⟩) (by assumption) ?_
              · ((try dsimp only at hSw); go_simp)
              try simp only [Act.put, List.setIfInBounds_toArray, List.set_cons_zero, List.set_cons_succ]
              refine wpAnyH_done (by kernel_rfl) ?_ _
              refine NoPanic.normal ?_
              go_wp2_with fail
              go_meet
              case rel => exact ⟨wa4.heap.size, wc1.heap.size, b, a, er, rfl, rfl, rfl, ⟨HPb.out, HPa.out, HOb.out, HOa.out, HKP.out, HLb.out, HLa.out, XBt.out⟩⟩
        · have hb : Below wD.heap.size wD (wD.alloc (.cells #[.int .i64 0, .string ⟨#[]⟩, .string ⟨#[]⟩, .int .i64 0, .slice none 0 0, .slice none 0 0] 33)) := (Below.refl _ _).alloc (Nat.le_refl _) _
          have XA6 := Lib.hid (XB0.out.trans (hb.mono XB0.out.size))
          have HGb : Hid (PrimAt (wD.alloc (.cells #[.int .i64 0, .string ⟨#[]⟩, .string ⟨#[]⟩, .int .i64 0, .slice none 0 0, .slice none 0 0] 33)) wD.heap.size ⟨0, ⟨#[]⟩, ⟨#[]⟩, 0, none, 0, [], none, 0, []⟩) := PrimAt.new_ wD ⟨0, ⟨#[]⟩, ⟨#[]⟩, 0, none, 0, [], none, 0, []⟩
          have HLb : Hid (wr.heap.size ≤ wD.heap.size) := XB0.out.size
          clear hb
          go_simp
          refine hK.out _ _ (HKS.out _ XA6.out) (fun hHeld10 => ?_)
          clear hK K hHeld
          try simp only [Act.put, List.setIfInBounds_toArray, List.set_cons_zero, List.set_cons_succ]
          generalize hwn : (wD.alloc (.cells #[.int .i64 0, .string ⟨#[]⟩, .string ⟨#[]⟩, .int .i64 0, .slice none 0 0, .slice none 0 0] 33)) = wa6 at *
          clear hwn
          refine wpAnyH_ready (rs := [5, 11]) (by kernel_rfl) (by simp) ?_
          refine AllReadyH.cons rfl (fun K hK => ?_) (AllReadyH.cons rfl (fun K hK => ?_) AllReadyH.nil)
          · go_simp
            go_at_call 26
            refine (CP.out _ XA6.out).mono ?_
            rintro e wc7 ⟨b, a, er, rfl, hp, hb⟩
            have XC7 := Lib.hid (XA6.out.trans (hb.mono XA6.out.size))
            have HOb := Lib.hid hp.out.1
            have HOa := Lib.hid hp.out.2.1
            have HKP := Lib.hid hp.out.2.2
            replace HGb := Lib.hid (HGb.out.on hb)
            clear hb hp
            refine hK.out _ _ (HKS.out _ XC7.out) (fun hHeld5 => ?_)
            clear hK K hHeld10
            try simp only [Act.put, List.setIfInBounds_toArray, List.set_cons_zero, List.set_cons_succ]
            refine wpAnyH_take (i := 6) (oi := { dst := some 30, op := _, type := _, pos := _, after := _, guard := _ }) (v := .tuple #[.agg #[.int .i64 b.kind, .string b.p, .string b.dst, .int .i64 b.at_, .slice b.a1 b.old.length b.c1, .slice b.a2 b.new.length b.c2], .agg #[.int .i64 a.kind, .string a.p, .string a.dst, .int .i64 a.at_, .slice a.a1 a.old.length a.c1, .slice a.a2 a.new.length a.c2], .int .i64 er]) rfl (by kernel_rfl) (by kernel_rfl) (by kernel_rfl) (fun _ _ _ h => h) (Or.inl ⟨by rfl, fun w' hSw => ?_⟩) (by assumption) ?_
            · ((try dsimp only at hSw); go_simp)
            try simp only [Act.put, List.setIfInBounds_toArray, List.set_cons_zero, List.set_cons_succ]
            refine wpAnyH_take (i := 7) (oi := { dst := some 37, op := _, type := _, pos := _, after := _, guard := _ }) (v := .agg #[.int .i64 b.kind, .string b.p, .string b.dst, .int .i64 b.at_, .slice b.a1 b.old.length b.c1, .slice b.a2 b.new.length b.c2]) rfl (by kernel_rfl) (by kernel_rfl) (by kernel_rfl) (fun _ _ _ h => h) (Or.inl ⟨by rfl, fun w' hSw => ?_⟩) (by assumption) ?_
            · ((try dsimp only at hSw); go_simp)
            try simp only [Act.put, List.setIfInBounds_toArray, List.set_cons_zero, List.set_cons_succ]
            refine wpAnyH_take (i := 8) (oi := { dst := some 38, op := _, type := _, pos := _, after := _, guard := _ }) (v := .agg #[.int .i64 a.kind, .string a.p, .string a.dst, .int .i64 a.at_, .slice a.a1 a.old.length a.c1, .slice a.a2 a.new.length a.c2]) rfl (by kernel_rfl) (by kernel_rfl) (by kernel_rfl) (fun _ _ _ h => h) (Or.inl ⟨by rfl, fun w' hSw => ?_⟩) (by assumption) ?_
            · ((try dsimp only at hSw); go_simp)
            try simp only [Act.put, List.setIfInBounds_toArray, List.set_cons_zero, List.set_cons_succ]
            refine wpAnyH_take (i := 9) (oi := { dst := some 39, op := _, type := _, pos := _, after := _, guard := _ }) (v := .int .i64 er) rfl (by kernel_rfl) (by kernel_rfl) (by kernel_rfl) (fun _ _ _ h => h) (Or.inl ⟨by rfl, fun w' hSw => ?_⟩) (by assumption) ?_
            · ((try dsimp only at hSw); go_simp)
            try simp only [Act.put, List.setIfInBounds_toArray, List.set_cons_zero, List.set_cons_succ]
            refine wpAnyH_ready (rs := [11]) (by kernel_rfl) (by simp) ?_
            refine AllReadyH.cons rfl (fun K hK => ?_) AllReadyH.nil
            · have HNE : Hid (wD.heap.size ≠ wc7.heap.size) := by show _ ≠ _; have h1 := HGb.out.lt; omega
              have hb : Below wc7.heap.size wc7 (wc7.alloc (.cells #[.int .i64 0, .string ⟨#[]⟩, .string ⟨#[]⟩, .int .i64 0, .slice none 0 0, .slice none 0 0] 33)) := (Below.refl _ _).alloc (Nat.le_refl _) _
              have XA8 := Lib.hid (XC7.out.trans (hb.mono XC7.out.size))
              replace HGb := Lib.hid (HGb.out.on hb)
              have hbB := hb.mono (Nat.le_trans HBW.out XC7.out.size)
              replace HOb := Lib.hid (HOb.out.below hbB)
              replace HOa := Lib.hid (HOa.out.below hbB)
              clear hbB
              have HGa : Hid (PrimAt (wc7.alloc (.cells #[.int .i64 0, .string ⟨#[]⟩, .string ⟨#[]⟩, .int .i64 0, .slice none 0 0, .slice none 0 0] 33)) wc7.heap.size ⟨0, ⟨#[]⟩, ⟨#[]⟩, 0, none, 0, [], none, 0, []⟩) := PrimAt.new_ wc7 ⟨0, ⟨#[]⟩, ⟨#[]⟩, 0, none, 0, [], none, 0, []⟩
              have HLa : Hid (wr.heap.size ≤ wc7.heap.size) := XC7.out.size
              clear hb
              go_simp
              refine hK.out _ _ (HKS.out _ XA8.out) (fun hHeld11 => ?_)
              clear hK K hHeld5
              try simp only [Act.put, List.setIfInBounds_toArray, List.set_cons_zero, List.set_cons_succ]
              generalize hwn : (wc7.alloc (.cells #[.int .i64 0, .string ⟨#[]⟩, .string ⟨#[]⟩, .int .i64 0, .slice none 0 0, .slice none 0 0] 33)) = wa8 at *
              clear hwn
              refine wpAnyH_ready (rs := [12]) (by kernel_rfl) (by simp) ?_
              refine AllReadyH.cons rfl (fun K hK => ?_) AllReadyH.nil
              have m0 := HGb.out.c0
              have mf0 := HGb.out.fz 0
              have m1 := HGb.out.c1
              have mf1 := HGb.out.fz 1
              have m2 := HGb.out.c2
              have mf2 := HGb.out.fz 2
              have m3 := HGb.out.c3
              have mf3 := HGb.out.fz 3
              have m4 := HGb.out.c4
              have mf4 := HGb.out.fz 4
              have m5 := HGb.out.c5
              have mf5 := HGb.out.fz 5
              have g1 : wa8.grownBy ((((((wa8.setCell ⟨wD.heap.size, 0, none⟩ (.int .i64 b.kind)).setCell ⟨wD.heap.size, 1, none⟩ (.string b.p)).setCell ⟨wD.heap.size, 2, none⟩ (.string b.dst)).setCell ⟨wD.heap.size, 3, none⟩ (.int .i64 b.at_)).setCell ⟨wD.heap.size, 4, none⟩ (.slice b.a1 b.old.length b.c1)).setCell ⟨wD.heap.size, 5, none⟩ (.slice b.a2 b.new.length b.c2)) (some wD.heap.size) := setPrim_grown wa8 wD.heap.size b
              have hbs : Below wr.heap.size wr ((((((wa8.setCell ⟨wD.heap.size, 0, none⟩ (.int .i64 b.kind)).setCell ⟨wD.heap.size, 1, none⟩ (.string b.p)).setCell ⟨wD.heap.size, 2, none⟩ (.string b.dst)).setCell ⟨wD.heap.size, 3, none⟩ (.int .i64 b.at_)).setCell ⟨wD.heap.size, 4, none⟩ (.slice b.a1 b.old.length b.c1)).setCell ⟨wD.heap.size, 5, none⟩ (.slice b.a2 b.new.length b.c2)) := below_prim b XA8.out HLb.out XA8.out.size
              have hB1 : Below B wa8 ((((((wa8.setCell ⟨wD.heap.size, 0, none⟩ (.int .i64 b.kind)).setCell ⟨wD.heap.size, 1, none⟩ (.string b.p)).setCell ⟨wD.heap.size, 2, none⟩ (.string b.dst)).setCell ⟨wD.heap.size, 3, none⟩ (.int .i64 b.at_)).setCell ⟨wD.heap.size, 4, none⟩ (.slice b.a1 b.old.length b.c1)).setCell ⟨wD.heap.size, 5, none⟩ (.slice b.a2 b.new.length b.c2)) := below_prim b (Below.refl B wa8) (Nat.le_trans HBW.out HLb.out) (Nat.le_trans HBW.out XA8.out.size)
              have hPb : PrimAt ((((((wa8.setCell ⟨wD.heap.size, 0, none⟩ (.int .i64 b.kind)).setCell ⟨wD.heap.size, 1, none⟩ (.string b.p)).setCell ⟨wD.heap.size, 2, none⟩ (.string b.dst)).setCell ⟨wD.heap.size, 3, none⟩ (.int .i64 b.at_)).setCell ⟨wD.heap.size, 4, none⟩ (.slice b.a1 b.old.length b.c1)).setCell ⟨wD.heap.size, 5, none⟩ (.slice b.a2 b.new.length b.c2)) (wD.heap.size) b := setPrim_at HGb.out b
              have hPa : PrimAt ((((((wa8.setCell ⟨wD.heap.size, 0, none⟩ (.int .i64 b.kind)).setCell ⟨wD.heap.size, 1, none⟩ (.string b.p)).setCell ⟨wD.heap.size, 2, none⟩ (.string b.dst)).setCell ⟨wD.heap.size, 3, none⟩ (.int .i64 b.at_)).setCell ⟨wD.heap.size, 4, none⟩ (.slice b.a1 b.old.length b.c1)).setCell ⟨wD.heap.size, 5, none⟩ (.slice b.a2 b.new.length b.c2)) (wc7.heap.size) ⟨0, ⟨#[]⟩, ⟨#[]⟩, 0, none, 0, [], none, 0, []⟩ := HGa.out.grown g1 (by simpa using HNE.out)
              have XBs := Lib.hid hbs
              have HPb := Lib.hid hPb
              replace HGa := Lib.hid hPa
              replace HOb := Lib.hid (HOb.out.below hB1)
              replace HOa := Lib.hid (HOa.out.below hB1)
              clear g1 hbs hB1 hPb hPa HGb
              go_simp
              refine hK.out _ _ (HKS.out _ XBs.out) (fun hHeld12 => ?_)
              clear hK K hHeld11 m0 mf0 m1 mf1 m2 mf2 m3 mf3 m4 mf4 m5 mf5
              try simp only [Act.put, List.setIfInBounds_toArray, List.set_cons_zero, List.set_cons_succ]
              generalize hwn : ((((((wa8.setCell ⟨wD.heap.size, 0, none⟩ (.int .i64 b.kind)).setCell ⟨wD.heap.size, 1, none⟩ (.string b.p)).setCell ⟨wD.heap.size, 2, none⟩ (.string b.dst)).setCell ⟨wD.heap.size, 3, none⟩ (.int .i64 b.at_)).setCell ⟨wD.heap.size, 4, none⟩ (.slice b.a1 b.old.length b.c1)).setCell ⟨wD.heap.size, 5, none⟩ (.slice b.a2 b.new.length b.c2)) = ws at *
              clear hwn
              refine wpAnyH_ready (rs := [13]) (by kernel_rfl) (by simp) ?_
              refine AllReadyH.cons rfl (fun K hK => ?_) AllReadyH.nil
              have m0 := HGa.out.c0
              have mf0 := HGa.out.fz 0
              have m1 := HGa.out.c1
              have mf1 := HGa.out.fz 1
              have m2 := HGa.out.c2
              have mf2 := HGa.out.fz 2
              have m3 := HGa.out.c3
              have mf3 := HGa.out.fz 3
              have m4 := HGa.out.c4
              have mf4 := HGa.out.fz 4
              have m5 := HGa.out.c5
              have mf5 := HGa.out.fz 5
              have g1 : ws.grownBy ((((((ws.setCell ⟨wc7.heap.size, 0, none⟩ (.int .i64 a.kind)).setCell ⟨wc7.heap.size, 1, none⟩ (.string a.p)).setCell ⟨wc7.heap.size, 2, none⟩ (.string a.dst)).setCell ⟨wc7.heap.size, 3, none⟩ (.int .i64 a.at_)).setCell ⟨wc7.heap.size, 4, none⟩ (.slice a.a1 a.old.length a.c1)).setCell ⟨wc7.heap.size, 5, none⟩ (.slice a.a2 a.new.length a.c2)) (some wc7.heap.size) := setPrim_grown ws wc7.heap.size a
              have hbs : Below wr.heap.size wr ((((((ws.setCell ⟨wc7.heap.size, 0, none⟩ (.int .i64 a.kind)).setCell ⟨wc7.heap.size, 1, none⟩ (.string a.p)).setCell ⟨wc7.heap.size, 2, none⟩ (.string a.dst)).setCell ⟨wc7.heap.size, 3, none⟩ (.int .i64 a.at_)).setCell ⟨wc7.heap.size, 4, none⟩ (.slice a.a1 a.old.length a.c1)).setCell ⟨wc7.heap.size, 5, none⟩ (.slice a.a2 a.new.length a.c2)) := below_prim a XBs.out HLa.out XBs.out.size
              have hB1 : Below B ws ((((((ws.setCell ⟨wc7.heap.size, 0, none⟩ (.int .i64 a.kind)).setCell ⟨wc7.heap.size, 1, none⟩ (.string a.p)).setCell ⟨wc7.heap.size, 2, none⟩ (.string a.dst)).setCell ⟨wc7.heap.size, 3, none⟩ (.int .i64 a.at_)).setCell ⟨wc7.heap.size, 4, none⟩ (.slice a.a1 a.old.length a.c1)).setCell ⟨wc7.heap.size, 5, none⟩ (.slice a.a2 a.new.length a.c2)) := below_prim a (Below.refl B ws) (Nat.le_trans HBW.out HLa.out) (Nat.le_trans HBW.out XBs.out.size)
              have hPa : PrimAt ((((((ws.setCell ⟨wc7.heap.size, 0, none⟩ (.int .i64 a.kind)).setCell ⟨wc7.heap.size, 1, none⟩ (.string a.p)).setCell ⟨wc7.heap.size, 2, none⟩ (.string a.dst)).setCell ⟨wc7.heap.size, 3, none⟩ (.int .i64 a.at_)).setCell ⟨wc7.heap.size, 4, none⟩ (.slice a.a1 a.old.length a.c1)).setCell ⟨wc7.heap.size, 5, none⟩ (.slice a.a2 a.new.length a.c2)) (wc7.heap.size) a := setPrim_at HGa.out a
              have hPb : PrimAt ((((((ws.setCell ⟨wc7.heap.size, 0, none⟩ (.int .i64 a.kind)).setCell ⟨wc7.heap.size, 1, none⟩ (.string a.p)).setCell ⟨wc7.heap.size, 2, none⟩ (.string a.dst)).setCell ⟨wc7.heap.size, 3, none⟩ (.int .i64 a.at_)).setCell ⟨wc7.heap.size, 4, none⟩ (.slice a.a1 a.old.length a.c1)).setCell ⟨wc7.heap.size, 5, none⟩ (.slice a.a2 a.new.length a.c2)) (wD.heap.size) b := HPb.out.grown g1 (by simpa using Ne.symm HNE.out)
              have XBt := Lib.hid hbs
              replace HPb := Lib.hid hPb
              have HPa := Lib.hid hPa
              replace HOb := Lib.hid (HOb.out.below hB1)
              replace HOa := Lib.hid (HOa.out.below hB1)
              clear g1 hbs hB1 hPb hPa HGa
              go_simp
              refine hK.out _ _ (HKS.out _ XBt.out) (fun hHeld13 => ?_)
              clear hK K hHeld12 m0 mf0 m1 mf1 m2 mf2 m3 mf3 m4 mf4 m5 mf5
              try simp only [Act.put, List.setIfInBounds_toArray, List.set_cons_zero, List.set_cons_succ]
              generalize hwn : ((((((ws.setCell ⟨wc7.heap.size, 0, none⟩ (.int .i64 a.kind)).setCell ⟨wc7.heap.size, 1, none⟩ (.string a.p)).setCell ⟨wc7.heap.size, 2, none⟩ (.string a.dst)).setCell ⟨wc7.heap.size, 3, none⟩ (.int .i64 a.at_)).setCell ⟨wc7.heap.size, 4, none⟩ (.slice a.a1 a.old.length a.c1)).setCell ⟨wc7.heap.size, 5, none⟩ (.slice a.a2 a.new.length a.c2)) = wt at *
              clear hwn
              refine wpAnyH_take (i := 14) (oi := { dst := some 11, op := _, type := _, pos := _, after := _, guard := _ }) (v := .int .i64 er) rfl (by kernel_rfl) (by kernel_rfl) (by kernel_rfl) (fun _ _ _ h => h) (Or.inl ⟨by rfl, fun w' hSw => ?_⟩) (by assumption) ?_
              · ((try dsimp only at hSw); go_simp)
              try simp only [Act.put, List.setIfInBounds_toArray, List.set_cons_zero, List.set_cons_succ]
              refine wpAnyH_done (by kernel_rfl) ?_ _
              refine NoPanic.normal ?_
              go_wp2_with fail
              go_meet
              case rel => exact ⟨wD.heap.size, wc7.heap.size, b, a, er, rfl, rfl, rfl, ⟨HPb.out, HPa.out, HOb.out, HOa.out, HKP.out, HLb.out, HLa.out, XBt.out⟩⟩
          · have HNE : Hid (wD.heap.size ≠ wa6.heap.size) := by show _ ≠ _; have h1 := HGb.out.lt; omega
            have hb : Below wa6.heap.size wa6 (wa6.alloc (.cells #[.int .i64 0, .string ⟨#[]⟩, .string ⟨#[]⟩, .int .i64 0, .slice none 0 0, .slice none 0 0] 33)) := (Below.refl _ _).alloc (Nat.le_refl _) _
            have XA9 := Lib.hid (XA6.out.trans (hb.mono XA6.out.size))
            replace HGb := Lib.hid (HGb.out.on hb)
            have HGa : Hid (PrimAt (wa6.alloc (.cells #[.int .i64 0, .string ⟨#[]⟩, .string ⟨#[]⟩, .int .i64 0, .slice none 0 0, .slice none 0 0] 33)) wa6.heap.size ⟨0, ⟨#[]⟩, ⟨#[]⟩, 0, none, 0, [], none, 0, []⟩) := PrimAt.new_ wa6 ⟨0, ⟨#[]⟩, ⟨#[]⟩, 0, none, 0, [], none, 0, []⟩
            have HLa : Hid (wr.heap.size ≤ wa6.heap.size) := XA6.out.size
            clear hb
            go_simp
            refine hK.out _ _ (HKS.out _ XA9.out) (fun hHeld11 => ?_)
            clear hK K hHeld10
            try simp only [Act.put, List.setIfInBounds_toArray, List.set_cons_zero, List.set_cons_succ]
            generalize hwn : (wa6.alloc (.cells #[.int .i64 0, .string ⟨#[]⟩, .string ⟨#[]⟩, .int .i64 0, .slice none 0 0, .slice none 0 0] 33)) = wa9 at *
            clear hwn
            refine wpAnyH_ready (rs := [5]) (by kernel_rfl) (by simp) ?_
            refine AllReadyH.cons rfl (fun K hK => ?_) AllReadyH.nil
            · go_simp
              go_at_call 26
              refine (CP.out _ XA9.out).mono ?_
              rintro e wc10 ⟨b, a, er, rfl, hp, hb⟩
              have XC10 := Lib.hid (XA9.out.trans (hb.mono XA9.out.size))
              have HOb := Lib.hid hp.out.1
              have HOa := Lib.hid hp.out.2.1
              have HKP := Lib.hid hp.out.2.2
              replace HGb := Lib.hid (HGb.out.on hb)
              replace HGa := Lib.hid (HGa.out.on hb)
              clear hb hp
              refine hK.out _ _ (HKS.out _ XC10.out) (fun hHeld5 => ?_)
              clear hK K hHeld11
              try simp only [Act.put, List.setIfInBounds_toArray, List.set_cons_zero, List.set_cons_succ]
              refine wpAnyH_take (i := 6) (oi := { dst := some 30, op := _, type := _, pos := _, after := _, guard := _ }) (v := .tuple #[.agg #[.int .i64 b.kind, .string b.p, .string b.dst, .int .i64 b.at_, .slice b.a1 b.old.length b.c1, .slice b.a2 b.new.length b.c2], .agg #[.int .i64 a.kind, .string a.p, .string a.dst, .int .i64 a.at_, .slice a.a1 a.old.length a.c1, .slice a.a2 a.new.length a.c2], .int .i64 er]) rfl (by kernel_rfl) (by kernel_rfl) (by kernel_rfl) (fun _ _ _ h => h) (Or.inl ⟨by rfl, fun w' hSw => ?_⟩) (by assumption) ?_
              · ((try dsimp only at hSw); go_simp)
              try simp only [Act.put, List.setIfInBounds_toArray, List.set_cons_zero, List.set_cons_succ]
              refine wpAnyH_take (i := 7) (oi := { dst := some 37, op := _, type := _, pos := _, after := _, guard := _ }) (v := .agg #[.int .i64 b.kind, .string b.p, .string b.dst, .int .i64 b.at_, .slice b.a1 b.old.length b.c1, .slice b.a2 b.new.length b.c2]) rfl (by kernel_rfl) (by kernel_rfl) (by kernel_rfl) (fun _ _ _ h => h) (Or.inl ⟨by rfl, fun w' hSw => ?_⟩) (by assumption) ?_
              · ((try dsimp only at hSw); go_simp)
              try simp only [Act.put, List.setIfInBounds_toArray, List.set_cons_zero, List.set_cons_succ]
              refine wpAnyH_take (i := 8) (oi := { dst := some 38, op := _, type := _, pos := _, after := _, guard := _ }) (v := .agg #[.int .i64 a.kind, .string a.p, .string a.dst, .int .i64 a.at_, .slice a.a1 a.old.length a.c1, .slice a.a2 a.new.length a.c2]) rfl (by kernel_rfl) (by kernel_rfl) (by kernel_rfl) (fun _ _ _ h => h) (Or.inl ⟨by rfl, fun w' hSw => ?_⟩) (by assumption) ?_
              · ((try dsimp only at hSw); go_simp)
              try simp only [Act.put, List.setIfInBounds_toArray, List.set_cons_zero, List.set_cons_succ]
              refine wpAnyH_take (i := 9) (oi := { dst := some 39, op := _, type := _, pos := _, after := _, guard := _ }) (v := .int .i64 er) rfl (by kernel_rfl) (by kernel_rfl) (by kernel_rfl) (fun _ _ _ h => h) (Or.inl ⟨by rfl, fun w' hSw => ?_⟩) (by assumption) ?_
              · ((try dsimp only at hSw); go_simp)
              try simp only [Act.put, List.setIfInBounds_toArray, List.set_cons_zero, List.set_cons_succ]
              refine wpAnyH_ready (rs := [12]) (by kernel_rfl) (by simp) ?_
              refine AllReadyH.cons rfl (fun K hK => ?_) AllReadyH.nil
              have m0 := HGb.out.c0
              have mf0 := HGb.out.fz 0
              have m1 := HGb.out.c1
              have mf1 := HGb.out.fz 1
              have m2 := HGb.out.c2
              have mf2 := HGb.out.fz 2
              have m3 := HGb.out.c3
              have mf3 := HGb.out.fz 3
              have m4 := HGb.out.c4
              have mf4 := HGb.out.fz 4
              have m5 := HGb.out.c5
              have mf5 := HGb.out.fz 5
              have g1 : wc10.grownBy ((((((wc10.setCell ⟨wD.heap.size, 0, none⟩ (.int .i64 b.kind)).setCell ⟨wD.heap.size, 1, none⟩ (.string b.p)).setCell ⟨wD.heap.size, 2, none⟩ (.string b.dst)).setCell ⟨wD.heap.size, 3, none⟩ (.int .i64 b.at_)).setCell ⟨wD.heap.size, 4, none⟩ (.slice b.a1 b.old.length b.c1)).setCell ⟨wD.heap.size, 5, none⟩ (.slice b.a2 b.new.length b.c2)) (some wD.heap.size) := setPrim_grown wc10 wD.heap.size b
              have hbs : Below wr.heap.size wr ((((((wc10.setCell ⟨wD.heap.size, 0, none⟩ (.int .i64 b.kind)).setCell ⟨wD.heap.size, 1, none⟩ (.string b.p)).setCell ⟨wD.heap.size, 2, none⟩ (.string b.dst)).setCell ⟨wD.heap.size, 3, none⟩ (.int .i64 b.at_)).setCell ⟨wD.heap.size, 4, none⟩ (.slice b.a1 b.old.length b.c1)).setCell ⟨wD.heap.size, 5, none⟩ (.slice b.a2 b.new.length b.c2)) := below_prim b XC10.out HLb.out XC10.out.size
              have hB1 : Below B wc10 ((((((wc10.setCell ⟨wD.heap.size, 0, none⟩ (.int .i64 b.kind)).setCell ⟨wD.heap.size, 1, none⟩ (.string b.p)).setCell ⟨wD.heap.size, 2, none⟩ (.string b.dst)).setCell ⟨wD.heap.size, 3, none⟩ (.int .i64 b.at_)).setCell ⟨wD.heap.size, 4, none⟩ (.slice b.a1 b.old.length b.c1)).setCell ⟨wD.heap.size, 5, none⟩ (.slice b.a2 b.new.length b.c2)) := below_prim b (Below.refl B wc10) (Nat.le_trans HBW.out HLb.out) (Nat.le_trans HBW.out XC10.out.size)
              have hPb : PrimAt ((((((wc10.setCell ⟨wD.heap.size, 0, none⟩ (.int .i64 b.kind)).setCell ⟨wD.heap.size, 1, none⟩ (.string b.p)).setCell ⟨wD.heap.size, 2, none⟩ (.string b.dst)).setCell ⟨wD.heap.size, 3, none⟩ (.int .i64 b.at_)).setCell ⟨wD.heap.size, 4, none⟩ (.slice b.a1 b.old.length b.c1)).setCell ⟨wD.heap.size, 5, none⟩ (.slice b.a2 b.new.length b.c2)) (wD.heap.size) b := setPrim_at HGb.out b
              have hPa : PrimAt ((((((wc10.setCell ⟨wD.heap.size, 0, none⟩ (.int .i64 b.kind)).setCell ⟨wD.heap.size, 1, none⟩ (.string b.p)).setCell ⟨wD.heap.size, 2, none⟩ (.string b.dst)).setCell ⟨wD.heap.size, 3, none⟩ (.int .i64 b.at_)).setCell ⟨wD.heap.size, 4, none⟩ (.slice b.a1 b.old.length b.c1)).setCell ⟨wD.heap.size, 5, none⟩ (.slice b.a2 b.new.length b.c2)) (wa6.heap.size) ⟨0, ⟨#[]⟩, ⟨#[]⟩, 0, none, 0, [], none, 0, []⟩ := HGa.out.grown g1 (by simpa using HNE.out)
              have XBs := Lib.hid hbs
              have HPb := Lib.hid hPb
              replace HGa := Lib.hid hPa
              replace HOb := Lib.hid (HOb.out.below hB1)
              replace HOa := Lib.hid (HOa.out.below hB1)
              clear g1 hbs hB1 hPb hPa HGb
              go_simp
              refine hK.out _ _ (HKS.out _ XBs.out) (fun hHeld12 => ?_)
              clear hK K hHeld5 m0 mf0 m1 mf1 m2 mf2 m3 mf3 m4 mf4 m5 mf5
              try simp only [Act.put, List.setIfInBounds_toArray, List.set_cons_zero, List.set_cons_succ]
              generalize hwn : ((((((wc10.setCell ⟨wD.heap.size, 0, none⟩ (.int .i64 b.kind)).setCell ⟨wD.heap.size, 1, none⟩ (.string b.p)).setCell ⟨wD.heap.size, 2, none⟩ (.string b.dst)).setCell ⟨wD.heap.size, 3, none⟩ (.int .i64 b.at_)).setCell ⟨wD.heap.size, 4, none⟩ (.slice b.a1 b.old.length b.c1)).setCell ⟨wD.heap.size, 5, none⟩ (.slice b.a2 b.new.length b.c2)) = ws at *
              clear hwn
              refine wpAnyH_ready (rs := [13]) (by kernel_rfl) (by simp) ?_
              refine AllReadyH.cons rfl (fun K hK => ?_) AllReadyH.nil
              have m0 := HGa.out.c0
              have mf0 := HGa.out.fz 0
              have m1 := HGa.out.c1
              have mf1 := HGa.out.fz 1
              have m2 := HGa.out.c2
              have mf2 := HGa.out.fz 2
              have m3 := HGa.out.c3
              have mf3 := HGa.out.fz 3
              have m4 := HGa.out.c4
              have mf4 := HGa.out.fz 4
              have m5 := HGa.out.c5
              have mf5 := HGa.out.fz 5
              have g1 : ws.grownBy ((((((ws.setCell ⟨wa6.heap.size, 0, none⟩ (.int .i64 a.kind)).setCell ⟨wa6.heap.size, 1, none⟩ (.string a.p)).setCell ⟨wa6.heap.size, 2, none⟩ (.string a.dst)).setCell ⟨wa6.heap.size, 3, none⟩ (.int .i64 a.at_)).setCell ⟨wa6.heap.size, 4, none⟩ (.slice a.a1 a.old.length a.c1)).setCell ⟨wa6.heap.size, 5, none⟩ (.slice a.a2 a.new.length a.c2)) (some wa6.heap.size) := setPrim_grown ws wa6.heap.size a
              have hbs : Below wr.heap.size wr ((((((ws.setCell ⟨wa6.heap.size, 0, none⟩ (.int .i64 a.kind)).setCell ⟨wa6.heap.size, 1, none⟩ (.string a.p)).setCell ⟨wa6.heap.size, 2, none⟩ (.string a.dst)).setCell ⟨wa6.heap.size, 3, none⟩ (.int .i64 a.at_)).setCell ⟨wa6.heap.size, 4, none⟩ (.slice a.a1 a.old.length a.c1)).setCell ⟨wa6.heap.size, 5, none⟩ (.slice a.a2 a.new.length a.c2)) := below_prim a XBs.out HLa.out XBs.out.size
              have hB1 : Below B ws ((((((ws.setCell ⟨wa6.heap.size, 0, none⟩ (.int .i64 a.kind)).setCell ⟨wa6.heap.size, 1, none⟩ (.string a.p)).setCell ⟨wa6.heap.size, 2, none⟩ (.string a.dst)).setCell ⟨wa6.heap.size, 3, none⟩ (.int .i64 a.at_)).setCell ⟨wa6.heap.size, 4, none⟩ (.slice a.a1 a.old.length a.c1)).setCell ⟨wa6.heap.size, 5, none⟩ (.slice a.a2 a.new.length a.c2)) := below_prim a (Below.refl B ws) (Nat.le_trans HBW.out HLa.out) (Nat.le_trans HBW.out XBs.out.size)
              have hPa : PrimAt ((((((ws.setCell ⟨wa6.heap.size, 0, none⟩ (.int .i64 a.kind)).setCell ⟨wa6.heap.size, 1, none⟩ (.string a.p)).setCell ⟨wa6.heap.size, 2, none⟩ (.string a.dst)).setCell ⟨wa6.heap.size, 3, none⟩ (.int .i64 a.at_)).setCell ⟨wa6.heap.size, 4, none⟩ (.slice a.a1 a.old.length a.c1)).setCell ⟨wa6.heap.size, 5, none⟩ (.slice a.a2 a.new.length a.c2)) (wa6.heap.size) a := setPrim_at HGa.out a
              have hPb : PrimAt ((((((ws.setCell ⟨wa6.heap.size, 0, none⟩ (.int .i64 a.kind)).setCell ⟨wa6.heap.size, 1, none⟩ (.string a.p)).setCell ⟨wa6.heap.size, 2, none⟩ (.string a.dst)).setCell ⟨wa6.heap.size, 3, none⟩ (.int .i64 a.at_)).setCell ⟨wa6.heap.size, 4, none⟩ (.slice a.a1 a.old.length a.c1)).setCell ⟨wa6.heap.size, 5, none⟩ (.slice a.a2 a.new.length a.c2)) (wD.heap.size) b := HPb.out.grown g1 (by simpa using Ne.symm HNE.out)
              have XBt := Lib.hid hbs
              replace HPb := Lib.hid hPb
              have HPa := Lib.hid hPa
              replace HOb := Lib.hid (HOb.out.below hB1)
              replace HOa := Lib.hid (HOa.out.below hB1)
              clear g1 hbs hB1 hPb hPa HGa
              go_simp
              refine hK.out _ _ (HKS.out _ XBt.out) (fun hHeld13 => ?_)
              clear hK K hHeld12 m0 mf0 m1 mf1 m2 mf2 m3 mf3 m4 mf4 m5 mf5
              try simp only [Act.put, List.setIfInBounds_toArray, List.set_cons_zero, List.set_cons_succ]
              generalize hwn : ((((((ws.setCell ⟨wa6.heap.size, 0, none⟩ (.int .i64 a.kind)).setCell ⟨wa6.heap.size, 1, none⟩ (.string a.p)).setCell ⟨wa6.heap.size, 2, none⟩ (.string a.dst)).setCell ⟨wa6.heap.size, 3, none⟩ (.int .i64 a.at_)).setCell ⟨wa6.heap.size, 4, none⟩ (.slice a.a1 a.old.length a.c1)).setCell ⟨wa6.heap.size, 5, none⟩ (.slice a.a2 a.new.length a.c2)) = wt at *
              clear hwn
              refine wpAnyH_take (i := 14) (oi := { dst := some 11, op := _, type := _, pos := _, after := _, guard := _ }) (v := .int .i64 er) rfl (by kernel_rfl) (by kernel_rfl) (by kernel_rfl) (fun _ _ _ h => h) (Or.inl ⟨by rfl, fun w' hSw => ?_⟩) (by assumption) ?_
              · ((try dsimp only at hSw); go_simp)
              try simp only [Act.put, List.setIfInBounds_toArray, List.set_cons_zero, List.set_cons_succ]
              refine wpAnyH_done (by kernel_rfl) ?_ _
              refine NoPanic.normal ?_
              go_wp2_with fail
              go_meet
              case rel => exact ⟨wD.heap.size, wa6.heap.size, b, a, er, rfl, rfl, rfl, ⟨HPb.out, HPa.out, HOb.out, HOa.out, HKP.out, HLb.out, HLa.out, XBt.out⟩⟩
        · have hb : Below wD.heap.size wD (wD.alloc (.cells #[.int .i64 0, .string ⟨#[]⟩, .string ⟨#[]⟩, .int .i64 0, .slice none 0 0, .slice none 0 0] 33)) := (Below.refl _ _).alloc (Nat.le_refl _) _
          have XA11 := Lib.hid (XB0.out.trans (hb.mono XB0.out.size))
          have HGa : Hid (PrimAt (wD.alloc (.cells #[.int .i64 0, .string ⟨#[]⟩, .string ⟨#[]⟩, .int .i64 0, .slice none 0 0, .slice none 0 0] 33)) wD.heap.size ⟨0, ⟨#[]⟩, ⟨#[]⟩, 0, none, 0, [], none, 0, []⟩) := PrimAt.new_ wD ⟨0, ⟨#[]⟩, ⟨#[]⟩, 0, none, 0, [], none, 0, []⟩
          have HLa : Hid (wr.heap.size ≤ wD.heap.size) := XB0.out.size
          clear hb
          go_simp
          refine hK.out _ _ (HKS.out _ XA11.out) (fun hHeld11 => ?_)
          clear hK K hHeld
          try simp only [Act.put, List.setIfInBounds_toArray, List.set_cons_zero, List.set_cons_succ]
          generalize hwn : (wD.alloc (.cells #[.int .i64 0, .string ⟨#[]⟩, .string ⟨#[]⟩, .int .i64 0, .slice none 0 0, .slice none 0 0] 33)) = wa11 at *
          clear hwn
          refine wpAnyH_ready (rs := [5, 10]) (by kernel_rfl) (by simp) ?_
          refine AllReadyH.cons rfl (fun K hK => ?_) (AllReadyH.cons rfl (fun K hK => ?_) AllReadyH.nil)
          · go_simp
            go_at_call 26
            refine (CP.out _ XA11.out).mono ?_
            rintro e wc12 ⟨b, a, er, rfl, hp, hb⟩
            have XC12 := Lib.hid (XA11.out.trans (hb.mono XA11.out.size))
            have HOb := Lib.hid hp.out.1
            have HOa := Lib.hid hp.out.2.1
            have HKP := Lib.hid hp.out.2.2
            replace HGa := Lib.hid (HGa.out.on hb)
            clear hb hp
            refine hK.out _ _ (HKS.out _ XC12.out) (fun hHeld5 => ?_)
            clear hK K hHeld11
            try simp only [Act.put, List.setIfInBounds_toArray, List.set_cons_zero, List.set_cons_succ]
            refine wpAnyH_take (i := 6) (oi := { dst := some 30, op := _, type := _, pos := _, after := _, guard := _ }) (v := .tuple #[.agg #[.int .i64 b.kind, .string b.p, .string b.dst, .int .i64 b.at_, .slice b.a1 b.old.length b.c1, .slice b.a2 b.new.length b.c2], .agg #[.int .i64 a.kind, .string a.p, .string a.dst, .int .i64 a.at_, .slice a.a1 a.old.length a.c1, .slice a.a2 a.new.length a.c2], .int .i64 er]) rfl (by kernel_rfl) (by kernel_rfl) (by kernel_rfl) (fun _ _ _ h => h) (Or.inl ⟨by rfl, fun w' hSw => ?_⟩) (by assumption) ?_
            · ((try dsimp only at hSw); go_simp)
            try simp only [Act.put, List.setIfInBounds_toArray, List.set_cons_zero, List.set_cons_succ]
            refine wpAnyH_take (i := 7) (oi := { dst := some 37, op := _, type := _, pos := _, after := _, guard := _ }) (v := .agg #[.int .i64 b.kind, .string b.p, .string b.dst, .int .i64 b.at_, .slice b.a1 b.old.length b.c1, .slice b.a2 b.new.length b.c2]) rfl (by kernel_rfl) (by kernel_rfl) (by kernel_rfl) (fun _ _ _ h => h) (Or.inl ⟨by rfl, fun w' hSw => ?_⟩) (by assumption) ?_
            · ((try dsimp only at hSw); go_simp)
            try simp only [Act.put, List.setIfInBounds_toArray, List.set_cons_zero, List.set_cons_succ]
            refine wpAnyH_take (i := 8) (oi := { dst := some 38, op := _, type := _, pos := _, after := _, guard := _ }) (v := .agg #[.int .i64 a.kind, .string a.p, .string a.dst, .int .i64 a.at_, .slice a.a1 a.old.length a.c1, .slice a.a2 a.new.length a.c2]) rfl (by kernel_rfl) (by kernel_rfl) (by kernel_rfl) (fun _ _ _ h => h) (Or.inl ⟨by rfl, fun w' hSw => ?_⟩) (by assumption) ?_
            · ((try dsimp only at hSw); go_simp)
            try simp only [Act.put, List.setIfInBounds_toArray, List.set_cons_zero, List.set_cons_succ]
            refine wpAnyH_take (i := 9) (oi := { dst := some 39, op := _, type := _, pos := _, after := _, guard := _ }) (v := .int .i64 er) rfl (by kernel_rfl) (by kernel_rfl) (by kernel_rfl) (fun _ _ _ h => h) (Or.inl ⟨by rfl, fun w' hSw => ?_⟩) (by assumption) ?_
            · ((try dsimp only at hSw); go_simp)
            try simp only [Act.put, List.setIfInBounds_toArray, List.set_cons_zero, List.set_cons_succ]
            refine wpAnyH_ready (rs := [10]) (by kernel_rfl) (by simp) ?_
            refine AllReadyH.cons rfl (fun K hK => ?_) AllReadyH.nil
            · have HNE : Hid (wc12.heap.size ≠ wD.heap.size) := by show _ ≠ _; have h1 := HGa.out.lt; omega
              have hb : Below wc12.heap.size wc12 (wc12.alloc (.cells #[.int .i64 0, .string ⟨#[]⟩, .string ⟨#[]⟩, .int .i64 0, .slice none 0 0, .slice none 0 0] 33)) := (Below.refl _ _).alloc (Nat.le_refl _) _
              have XA13 := Lib.hid (XC12.out.trans (hb.mono XC12.out.size))
              replace HGa := Lib.hid (HGa.out.on hb)
              have hbB := hb.mono (Nat.le_trans HBW.out XC12.out.size)
              replace HOb := Lib.hid (HOb.out.below hbB)
              replace HOa := Lib.hid (HOa.out.below hbB)
              clear hbB
              have HGb : Hid (PrimAt (wc12.alloc (.cells #[.int .i64 0, .string ⟨#[]⟩, .string ⟨#[]⟩, .int .i64 0, .slice none 0 0, .slice none 0 0] 33)) wc12.heap.size ⟨0, ⟨#[]⟩, ⟨#[]⟩, 0, none, 0, [], none, 0, []⟩) := PrimAt.new_ wc12 ⟨0, ⟨#[]⟩, ⟨#[]⟩, 0, none, 0, [], none, 0, []⟩
              have HLb : Hid (wr.heap.size ≤ wc12.heap.size) := XC12.out.size
              clear hb
              go_simp
              refine hK.out _ _ (HKS.out _ XA13.out) (fun hHeld10 => ?_)
              clear hK K hHeld5
              try simp only [Act.put, List.setIfInBounds_toArray, List.set_cons_zero, List.set_cons_succ]
              generalize hwn : (wc12.alloc (.cells #[.int .i64 0, .string ⟨#[]⟩, .string ⟨#[]⟩, .int .i64 0, .slice none 0 0, .slice none 0 0] 33)) = wa13 at *
              clear hwn
              refine wpAnyH_ready (rs := [12]) (by kernel_rfl) (by simp) ?_
              refine AllReadyH.cons rfl (fun K hK => ?_) AllReadyH.nil
              have m0 := HGb.out.c0
              have mf0 := HGb.out.fz 0
              have m1 := HGb.out.c1
              have mf1 := HGb.out.fz 1
              have m2 := HGb.out.c2
              have mf2 := HGb.out.fz 2
              have m3 := HGb.out.c3
              have mf3 := HGb.out.fz 3
              have m4 := HGb.out.c4
              have mf4 := HGb.out.fz 4
              have m5 := HGb.out.c5
              have mf5 := HGb.out.fz 5
              have g1 : wa13.grownBy ((((((wa13.setCell ⟨wc12.heap.size, 0, none⟩ (.int .i64 b.kind)).setCell ⟨wc12.heap.size, 1, none⟩ (.string b.p)).setCell ⟨wc12.heap.size, 2, none⟩ (.string b.dst)).setCell ⟨wc12.heap.size, 3, none⟩ (.int .i64 b.at_)).setCell ⟨wc12.heap.size, 4, none⟩ (.slice b.a1 b.old.length b.c1)).setCell ⟨wc12.heap.size, 5, none⟩ (.slice b.a2 b.new.length b.c2)) (some wc12.heap.size) := setPrim_grown wa13 wc12.heap.size b
              have hbs : Below wr.heap.size wr ((((((wa13.setCell ⟨wc12.heap.size, 0, none⟩ (.int .i64 b.kind)).setCell ⟨wc12.heap.size, 1, none⟩ (.string b.p)).setCell ⟨wc12.heap.size, 2, none⟩ (.string b.dst)).setCell ⟨wc12.heap.size, 3, none⟩ (.int .i64 b.at_)).setCell ⟨wc12.heap.size, 4, none⟩ (.slice b.a1 b.old.length b.c1)).setCell ⟨wc12.heap.size, 5, none⟩ (.slice b.a2 b.new.length b.c2)) := below_prim b XA13.out HLb.out XA13.out.size
              have hB1 : Below B wa13 ((((((wa13.setCell ⟨wc12.heap.size, 0, none⟩ (.int .i64 b.kind)).setCell ⟨wc12.heap.size, 1, none⟩ (.string b.p)).setCell ⟨wc12.heap.size, 2, none⟩ (.string b.dst)).setCell ⟨wc12.heap.size, 3, none⟩ (.int .i64 b.at_)).setCell ⟨wc12.heap.size, 4, none⟩ (.slice b.a1 b.old.length b.c1)).setCell ⟨wc12.heap.size, 5, none⟩ (.slice b.a2 b.new.length b.c2)) := below_prim b (Below.refl B wa13) (Nat.le_trans HBW.out HLb.out) (Nat.le_trans HBW.out XA13.out.size)
              have hPb : PrimAt ((((((wa13.setCell ⟨wc12.heap.size, 0, none⟩ (.int .i64 b.kind)).setCell ⟨wc12.heap.size, 1, none⟩ (.string b.p)).setCell ⟨wc12.heap.size, 2, none⟩ (.string b.dst)).setCell ⟨wc12.heap.size, 3, none⟩ (.int .i64 b.at_)).setCell ⟨wc12.heap.size, 4, none⟩ (.slice b.a1 b.old.length b.c1)).setCell ⟨wc12.heap.size, 5, none⟩ (.slice b.a2 b.new.length b.c2)) (wc12.heap.size) b := setPrim_at HGb.out b
              have hPa : PrimAt ((((((wa13.setCell ⟨wc12.heap.size, 0, none⟩ (.int .i64 b.kind)).setCell ⟨wc12.heap.size, 1, none⟩ (.string b.p)).setCell ⟨wc12.heap.size, 2, none⟩ (.string b.dst)).setCell ⟨wc12.heap.size, 3, none⟩ (.int .i64 b.at_)).setCell ⟨wc12.heap.size, 4, none⟩ (.slice b.a1 b.old.length b.c1)).setCell ⟨wc12.heap.size, 5, none⟩ (.slice b.a2 b.new.length b.c2)) (wD.heap.size) ⟨0, ⟨#[]⟩, ⟨#[]⟩, 0, none, 0, [], none, 0, []⟩ := HGa.out.grown g1 (by simpa using HNE.out)
              have XBs := Lib.hid hbs
              have HPb := Lib.hid hPb
              replace HGa := Lib.hid hPa
              replace HOb := Lib.hid (HOb.out.below hB1)
              replace HOa := Lib.hid (HOa.out.below hB1)
              clear g1 hbs hB1 hPb hPa HGb
              go_simp
              refine hK.out _ _ (HKS.out _ XBs.out) (fun hHeld12 => ?_)
              clear hK K hHeld10 m0 mf0 m1 mf1 m2 mf2 m3 mf3 m4 mf4 m5 mf5
              try simp only [Act.put, List.setIfInBounds_toArray, List.set_cons_zero, List.set_cons_succ]
              generalize hwn : ((((((wa13.setCell ⟨wc12.heap.size, 0, none⟩ (.int .i64 b.kind)).setCell ⟨wc12.heap.size, 1, none⟩ (.string b.p)).setCell ⟨wc12.heap.size, 2, none⟩ (.string b.dst)).setCell ⟨wc12.heap.size, 3, none⟩ (.int .i64 b.at_)).setCell ⟨wc12.heap.size, 4, none⟩ (.slice b.a1 b.old.length b.c1)).setCell ⟨wc12.heap.size, 5, none⟩ (.slice b.a2 b.new.length b.c2)) = ws at *
              clear hwn
              refine wpAnyH_ready (rs := [13]) (by kernel_rfl) (by simp) ?_
              refine AllReadyH.cons rfl (fun K hK => ?_) AllReadyH.nil
              have m0 := HGa.out.c0
              have mf0 := HGa.out.fz 0
              have m1 := HGa.out.c1
              have mf1 := HGa.out.fz 1
              have m2 := HGa.out.c2
              have mf2 := HGa.out.fz 2
              have m3 := HGa.out.c3
              have mf3 := HGa.out.fz 3
              have m4 := HGa.out.c4
              have mf4 := HGa.out.fz 4
              have m5 := HGa.out.c5
              have mf5 := HGa.out.fz 5
              have g1 : ws.grownBy ((((((ws.setCell ⟨wD.heap.size, 0, none⟩ (.int .i64 a.kind)).setCell ⟨wD.heap.size, 1, none⟩ (.string a.p)).setCell ⟨wD.heap.size, 2, none⟩ (.string a.dst)).setCell ⟨wD.heap.size, 3, none⟩ (.int .i64 a.at_)).setCell ⟨wD.heap.size, 4, none⟩ (.slice a.a1 a.old.length a.c1)).setCell ⟨wD.heap.size, 5, none⟩ (.slice a.a2 a.new.length a.c2)) (some wD.heap.size) := setPrim_grown ws wD.heap.size a
              have hbs : Below wr.heap.size wr ((((((ws.setCell ⟨wD.heap.size, 0, none⟩ (.int .i64 a.kind)).setCell ⟨wD.heap.size, 1, none⟩ (.string a.p)).setCell ⟨wD.heap.size, 2, none⟩ (.string a.dst)).setCell ⟨wD.heap.size, 3, none⟩ (.int .i64 a.at_)).setCell ⟨wD.heap.size, 4, none⟩ (.slice a.a1 a.old.length a.c1)).setCell ⟨wD.heap.size, 5, none⟩ (.slice a.a2 a.new.length a.c2)) := below_prim a XBs.out HLa.out XBs.out.size
              have hB1 : Below B ws ((((((ws.setCell ⟨wD.heap.size, 0, none⟩ (.int .i64 a.kind)).setCell ⟨wD.heap.size, 1, none⟩ (.string a.p)).setCell ⟨wD.heap.size, 2, none⟩ (.string a.dst)).setCell ⟨wD.heap.size, 3, none⟩ (.int .i64 a.at_)).setCell ⟨wD.heap.size, 4, none⟩ (.slice a.a1 a.old.length a.c1)).setCell ⟨wD.heap.size, 5, none⟩ (.slice a.a2 a.new.length a.c2)) := below_prim a (Below.refl B ws) (Nat.le_trans HBW.out HLa.out) (Nat.le_trans HBW.out XBs.out.size)
              have hPa : PrimAt ((((((ws.setCell ⟨wD.heap.size, 0, none⟩ (.int .i64 a.kind)).setCell ⟨wD.heap.size, 1, none⟩ (.string a.p)).setCell ⟨wD.heap.size, 2, none⟩ (.string a.dst)).setCell ⟨wD.heap.size, 3, none⟩ (.int .i64 a.at_)).setCell ⟨wD.heap.size, 4, none⟩ (.slice a.a1 a.old.length a.c1)).setCell ⟨wD.heap.size, 5, none⟩ (.slice a.a2 a.new.length a.c2)) (wD.heap.size) a := setPrim_at HGa.out a
              have hPb : PrimAt ((((((ws.setCell ⟨wD.heap.size, 0, none⟩ (.int .i64 a.kind)).setCell ⟨wD.heap.size, 1, none⟩ (.string a.p)).setCell ⟨wD.heap.size, 2, none⟩ (.string a.dst)).setCell ⟨wD.heap.size, 3, none⟩ (.int .i64 a.at_)).setCell ⟨wD.heap.size, 4, none⟩ (.slice a.a1 a.old.length a.c1)).setCell ⟨wD.heap.size, 5, none⟩ (.slice a.a2 a.new.length a.c2)) (wc12.heap.size) b := HPb.out.grown g1 (by simpa using Ne.symm HNE.out)
              have XBt := Lib.hid hbs
              replace HPb := Lib.hid hPb
              have HPa := Lib.hid hPa
              replace HOb := Lib.hid (HOb.out.below hB1)
              replace HOa := Lib.hid (HOa.out.below hB1)
              clear g1 hbs hB1 hPb hPa HGa
              go_simp
              refine hK.out _ _ (HKS.out _ XBt.out) (fun hHeld13 => ?_)
              clear hK K hHeld12 m0 mf0 m1 mf1 m2 mf2 m3 mf3 m4 mf4 m5 mf5
              try simp only [Act.put, List.setIfInBounds_toArray, List.set_cons_zero, List.set_cons_succ]
              generalize hwn : ((((((ws.setCell ⟨wD.heap.size, 0, none⟩ (.int .i64 a.kind)).setCell ⟨wD.heap.size, 1, none⟩ (.string a.p)).setCell ⟨wD.heap.size, 2, none⟩ (.string a.dst)).setCell ⟨wD.heap.size, 3, none⟩ (.int .i64 a.at_)).setCell ⟨wD.heap.size, 4, none⟩ (.slice a.a1 a.old.length a.c1)).setCell ⟨wD.heap.size, 5, none⟩ (.slice a.a2 a.new.length a.c2)) = wt at *
              clear hwn
              refine wpAnyH_take (i := 14) (oi := { dst := some 11, op := _, type := _, pos := _, after := _, guard := _ }) (v := .int .i64 er) rfl (by kernel_rfl) (by kernel_rfl) (by kernel_rfl) (fun _ _ _ h => h) (Or.inl ⟨by rfl, fun w' hSw => ?_⟩) (by assumption) ?_
              · ((try dsimp only at hSw); go_simp)
              try simp only [Act.put, List.setIfInBounds_toArray, List.set_cons_zero, List.set_cons_succ]
              refine wpAnyH_done (by kernel_rfl) ?_ _
              refine NoPanic.normal ?_
              go_wp2_with fail
              go_meet
              case rel => exact ⟨wc12.heap.size, wD.heap.size, b, a, er, rfl, rfl, rfl, ⟨HPb.out, HPa.out, HOb.out, HOa.out, HKP.out, HLb.out, HLa.out, XBt.out⟩⟩
          · have HNE : Hid (wa11.heap.size ≠ wD.heap.size) := by show _ ≠ _; have h1 := HGa.out.lt; omega
            have hb : Below wa11.heap.size wa11 (wa11.alloc (.cells #[.int .i64 0, .string ⟨#[]⟩, .string ⟨#[]⟩, .int .i64 0, .slice none 0 0, .slice none 0 0] 33)) := (Below.refl _ _).alloc (Nat.le_refl _) _
            have XA14 := Lib.hid (XA11.out.trans (hb.mono XA11.out.size))
            replace HGa := Lib.hid (HGa.out.on hb)
            have HGb : Hid (PrimAt (wa11.alloc (.cells #[.int .i64 0, .string ⟨#[]⟩, .string ⟨#[]⟩, .int .i64 0, .slice none 0 0, .slice none 0 0] 33)) wa11.heap.size ⟨0, ⟨#[]⟩, ⟨#[]⟩, 0, none, 0, [], none, 0, []⟩) := PrimAt.new_ wa11 ⟨0, ⟨#[]⟩, ⟨#[]⟩, 0, none, 0, [], none, 0, []⟩
            have HLb : Hid (wr.heap.size ≤ wa11.heap.size) := XA11.out.size
            clear hb
            go_simp
            refine hK.out _ _ (HKS.out _ XA14.out) (fun hHeld10 => ?_)
            clear hK K hHeld11
            try simp only [Act.put, List.setIfInBounds_toArray, List.set_cons_zero, List.set_cons_succ]
            generalize hwn : (wa11.alloc (.cells #[.int .i64 0, .string ⟨#[]⟩, .string ⟨#[]⟩, .int .i64 0, .slice none 0 0, .slice none 0 0] 33)) = wa14 at *
            clear hwn
            refine wpAnyH_ready (rs := [5]) (by kernel_rfl) (by simp) ?_
            refine AllReadyH.cons rfl (fun K hK => ?_) AllReadyH.nil
            · go_simp
              go_at_call 26
              refine (CP.out _ XA14.out).mono ?_
              rintro e wc15 ⟨b, a, er, rfl, hp, hb⟩
              have XC15 := Lib.hid (XA14.out.trans (hb.mono XA14.out.size))
              have HOb := Lib.hid hp.out.1
              have HOa := Lib.hid hp.out.2.1
              have HKP := Lib.hid hp.out.2.2
              replace HGa := Lib.hid (HGa.out.on hb)
              replace HGb := Lib.hid (HGb.out.on hb)
              clear hb hp
              refine hK.out _ _ (HKS.out _ XC15.out) (fun hHeld5 => ?_)
              clear hK K hHeld10
              try simp only [Act.put, List.setIfInBounds_toArray, List.set_cons_zero, List.set_cons_succ]
              refine wpAnyH_take (i := 6) (oi := { dst := some 30, op := _, type := _, pos := _, after := _, guard := _ }) (v := .tuple #[.agg #[.int .i64 b.kind, .string b.p, .string b.dst, .int .i64 b.at_, .slice b.a1 b.old.length b.c1, .slice b.a2 b.new.length b.c2], .agg #[.int .i64 a.kind, .string a.p, .string a.dst, .int .i64 a.at_, .slice a.a1 a.old.length a.c1, .slice a.a2 a.new.length a.c2], .int .i64 er]) rfl (by kernel_rfl) (by kernel_rfl) (by kernel_rfl) (fun _ _ _ h => h) (Or.inl ⟨by rfl, fun w' hSw => ?_⟩) (by assumption) ?_
              · ((try dsimp only at hSw); go_simp)
              try simp only [Act.put, List.setIfInBounds_toArray, List.set_cons_zero, List.set_cons_succ]
              refine wpAnyH_take (i := 7) (oi := { dst := some 37, op := _, type := _, pos := _, after := _, guard := _ }) (v := .agg #[.int .i64 b.kind, .string b.p, .string b.dst, .int .i64 b.at_, .slice b.a1 b.old.length b.c1, .slice b.a2 b.new.length b.c2]) rfl (by kernel_rfl) (by kernel_rfl) (by kernel_rfl) (fun _ _ _ h => h) (Or.inl ⟨by rfl, fun w' hSw => ?_⟩) (by assumption) ?_
              · ((try dsimp only at hSw); go_simp)
              try simp only [Act.put, List.setIfInBounds_toArray, List.set_cons_zero, List.set_cons_succ]
              refine wpAnyH_take (i := 8) (oi := { dst := some 38, op := _, type := _, pos := _, after := _, guard := _ }) (v := .agg #[.int .i64 a.kind, .string a.p, .string a.dst, .int .i64 a.at_, .slice a.a1 a.old.length a.c1, .slice a.a2 a.new.length a.c2]) rfl (by kernel_rfl) (by kernel_rfl) (by kernel_rfl) (fun _ _ _ h => h) (Or.inl ⟨by rfl, fun w' hSw => ?_⟩) (by assumption) ?_
              · ((try dsimp only at hSw); go_simp)
              try simp only [Act.put, List.setIfInBounds_toArray, List.set_cons_zero, List.set_cons_succ]
              refine wpAnyH_take (i := 9) (oi := { dst := some 39, op := _, type := _, pos := _, after := _, guard := _ }) (v := .int .i64 er) rfl (by kernel_rfl) (by kernel_rfl) (by kernel_rfl) (fun _ _ _ h => h) (Or.inl ⟨by rfl, fun w' hSw => ?_⟩) (by assumption) ?_
              · ((try dsimp only at hSw); go_simp)
              try simp only [Act.put, List.setIfInBounds_toArray, List.set_cons_zero, List.set_cons_succ]
              refine wpAnyH_ready (rs := [12]) (by kernel_rfl) (by simp) ?_
              refine AllReadyH.cons rfl (fun K hK => ?_) AllReadyH.nil
              have m0 := HGb.out.c0
              have mf0 := HGb.out.fz 0
              have m1 := HGb.out.c1
              have mf1 := HGb.out.fz 1
              have m2 := HGb.out.c2
              have mf2 := HGb.out.fz 2
              have m3 := HGb.out.c3
              have mf3 := HGb.out.fz 3
              have m4 := HGb.out.c4
              have mf4 := HGb.out.fz 4
              have m5 := HGb.out.c5
              have mf5 := HGb.out.fz 5
              have g1 : wc15.grownBy ((((((wc15.setCell ⟨wa11.heap.size, 0, none⟩ (.int .i64 b.kind)).setCell ⟨wa11.heap.size, 1, none⟩ (.string b.p)).setCell ⟨wa11.heap.size, 2, none⟩ (.string b.dst)).setCell ⟨wa11.heap.size, 3, none⟩ (.int .i64 b.at_)).setCell ⟨wa11.heap.size, 4, none⟩ (.slice b.a1 b.old.length b.c1)).setCell ⟨wa11.heap.size, 5, none⟩ (.slice b.a2 b.new.length b.c2)) (some wa11.heap.size) := setPrim_grown wc15 wa11.heap.size b
              have hbs : Below wr.heap.size wr ((((((wc15.setCell ⟨wa11.heap.size, 0, none⟩ (.int .i64 b.kind)).setCell ⟨wa11.heap.size, 1, none⟩ (.string b.p)).setCell ⟨wa11.heap.size, 2, none⟩ (.string b.dst)).setCell ⟨wa11.heap.size, 3, none⟩ (.int .i64 b.at_)).setCell ⟨wa11.heap.size, 4, none⟩ (.slice b.a1 b.old.length b.c1)).setCell ⟨wa11.heap.size, 5, none⟩ (.slice b.a2 b.new.length b.c2)) := below_prim b XC15.out HLb.out XC15.out.size
              have hB1 : Below B wc15 ((((((wc15.setCell ⟨wa11.heap.size, 0, none⟩ (.int .i64 b.kind)).setCell ⟨wa11.heap.size, 1, none⟩ (.string b.p)).setCell ⟨wa11.heap.size, 2, none⟩ (.string b.dst)).setCell ⟨wa11.heap.size, 3, none⟩ (.int .i64 b.at_)).setCell ⟨wa11.heap.size, 4, none⟩ (.slice b.a1 b.old.length b.c1)).setCell ⟨wa11.heap.size, 5, none⟩ (.slice b.a2 b.new.length b.c2)) := below_prim b (Below.refl B wc15) (Nat.le_trans HBW.out HLb.out) (Nat.le_trans HBW.out XC15.out.size)
              have hPb : PrimAt ((((((wc15.setCell ⟨wa11.heap.size, 0, none⟩ (.int .i64 b.kind)).setCell ⟨wa11.heap.size, 1, none⟩ (.string b.p)).setCell ⟨wa11.heap.size, 2, none⟩ (.string b.dst)).setCell ⟨wa11.heap.size, 3, none⟩ (.int .i64 b.at_)).setCell ⟨wa11.heap.size, 4, none⟩ (.slice b.a1 b.old.length b.c1)).setCell ⟨wa11.heap.size, 5, none⟩ (.slice b.a2 b.new.length b.c2)) (wa11.heap.size) b := setPrim_at HGb.out b
              have hPa : PrimAt ((((((wc15.setCell ⟨wa11.heap.size, 0, none⟩ (.int .i64 b.kind)).setCell ⟨wa11.heap.size, 1, none⟩ (.string b.p)).setCell ⟨wa11.heap.size, 2, none⟩ (.string b.dst)).setCell ⟨wa11.heap.size, 3, none⟩ (.int .i64 b.at_)).setCell ⟨wa11.heap.size, 4, none⟩ (.slice b.a1 b.old.length b.c1)).setCell ⟨wa11.heap.size, 5, none⟩ (.slice b.a2 b.new.length b.c2)) (wD.heap.size) ⟨0, ⟨#[]⟩, ⟨#[]⟩, 0, none, 0, [], none, 0, []⟩ := HGa.out.grown g1 (by simpa using HNE.out)
              have XBs := Lib.hid hbs
              have HPb := Lib.hid hPb
              replace HGa := Lib.hid hPa
              replace HOb := Lib.hid (HOb.out.below hB1)
              replace HOa := Lib.hid (HOa.out.below hB1)
              clear g1 hbs hB1 hPb hPa HGb
              go_simp
              refine hK.out _ _ (HKS.out _ XBs.out) (fun hHeld12 => ?_)
              clear hK K hHeld5 m0 mf0 m1 mf1 m2 mf2 m3 mf3 m4 mf4 m5 mf5
              try simp only [Act.put, List.setIfInBounds_toArray, List.set_cons_zero, List.set_cons_succ]
              generalize hwn : ((((((wc15.setCell ⟨wa11.heap.size, 0, none⟩ (.int .i64 b.kind)).setCell ⟨wa11.heap.size, 1, none⟩ (.string b.p)).setCell ⟨wa11.heap.size, 2, none⟩ (.string b.dst)).setCell ⟨wa11.heap.size, 3, none⟩ (.int .i64 b.at_)).setCell ⟨wa11.heap.size, 4, none⟩ (.slice b.a1 b.old.length b.c1)).setCell ⟨wa11.heap.size, 5, none⟩ (.slice b.a2 b.new.length b.c2)) = ws at *
              clear hwn
              refine wpAnyH_ready (rs := [13]) (by kernel_rfl) (by simp) ?_
              refine AllReadyH.cons rfl (fun K hK => ?_) AllReadyH.nil
              have m0 := HGa.out.c0
              have mf0 := HGa.out.fz 0
              have m1 := HGa.out.c1
              have mf1 := HGa.out.fz 1
              have m2 := HGa.out.c2
              have mf2 := HGa.out.fz 2
              have m3 := HGa.out.c3
              have mf3 := HGa.out.fz 3
              have m4 := HGa.out.c4
              have mf4 := HGa.out.fz 4
              have m5 := HGa.out.c5
              have mf5 := HGa.out.fz 5
              have g1 : ws.grownBy ((((((ws.setCell ⟨wD.heap.size, 0, none⟩ (.int .i64 a.kind)).setCell ⟨wD.heap.size, 1, none⟩ (.string a.p)).setCell ⟨wD.heap.size, 2, none⟩ (.string a.dst)).setCell ⟨wD.heap.size, 3, none⟩ (.int .i64 a.at_)).setCell ⟨wD.heap.size, 4, none⟩ (.slice a.a1 a.old.length a.c1)).setCell ⟨wD.heap.size, 5, none⟩ (.slice a.a2 a.new.length a.c2)) (some wD.heap.size) := setPrim_grown ws wD.heap.size a
              have hbs : Below wr.heap.size wr ((((((ws.setCell ⟨wD.heap.size, 0, none⟩ (.int .i64 a.kind)).setCell ⟨wD.heap.size, 1, none⟩ (.string a.p)).setCell ⟨wD.heap.size, 2, none⟩ (.string a.dst)).setCell ⟨wD.heap.size, 3, none⟩ (.int .i64 a.at_)).setCell ⟨wD.heap.size, 4, none⟩ (.slice a.a1 a.old.length a.c1)).setCell ⟨wD.heap.size, 5, none⟩ (.slice a.a2 a.new.length a.c2)) := below_prim a XBs.out HLa.out XBs.out.size
              have hB1 : Below B ws ((((((ws.setCell ⟨wD.heap.size, 0, none⟩ (.int .i64 a.kind)).setCell ⟨wD.heap.size, 1, none⟩ (.string a.p)).setCell ⟨wD.heap.size, 2, none⟩ (.string a.dst)).setCell ⟨wD.heap.size, 3, none⟩ (.int .i64 a.at_)).setCell ⟨wD.heap.size, 4, none⟩ (.slice a.a1 a.old.length a.c1)).setCell ⟨wD.heap.size, 5, none⟩ (.slice a.a2 a.new.length a.c2)) := below_prim a (Below.refl B ws) (Nat.le_trans HBW.out HLa.out) (Nat.le_trans HBW.out XBs.out.size)
              have hPa : PrimAt ((((((ws.setCell ⟨wD.heap.size, 0, none⟩ (.int .i64 a.kind)).setCell ⟨wD.heap.size, 1, none⟩ (.string a.p)).setCell ⟨wD.heap.size, 2, none⟩ (.string a.dst)).setCell ⟨wD.heap.size, 3, none⟩ (.int .i64 a.at_)).setCell ⟨wD.heap.size, 4, none⟩ (.slice a.a1 a.old.length a.c1)).setCell ⟨wD.heap.size, 5, none⟩ (.slice a.a2 a.new.length a.c2)) (wD.heap.size) a := setPrim_at HGa.out a
              have hPb : PrimAt ((((((ws.setCell ⟨wD.heap.size, 0, none⟩ (.int .i64 a.kind)).setCell ⟨wD.heap.size, 1, none⟩ (.string a.p)).setCell ⟨wD.heap.size, 2, none⟩ (.string a.dst)).setCell ⟨wD.heap.size, 3, none⟩ (.int .i64 a.at_)).setCell ⟨wD.heap.size, 4, none⟩ (.slice a.a1 a.old.length a.c1)).setCell ⟨wD.heap.size, 5, none⟩ (.slice a.a2 a.new.length a.c2)) (wa11.heap.size) b := HPb.out.grown g1 (by simpa using Ne.symm HNE.out)
              have XBt := Lib.hid hbs
              replace HPb := Lib.hid hPb
              have HPa := Lib.hid hPa
              replace HOb := Lib.hid (HOb.out.below hB1)
              replace HOa := Lib.hid (HOa.out.below hB1)
              clear g1 hbs hB1 hPb hPa HGa
              go_simp
              refine hK.out _ _ (HKS.out _ XBt.out) (fun hHeld13 => ?_)
              clear hK K hHeld12 m0 mf0 m1 mf1 m2 mf2 m3 mf3 m4 mf4 m5 mf5
              try simp only [Act.put, List.setIfInBounds_toArray, List.set_cons_zero, List.set_cons_succ]
              generalize hwn : ((((((ws.setCell ⟨wD.heap.size, 0, none⟩ (.int .i64 a.kind)).setCell ⟨wD.heap.size, 1, none⟩ (.string a.p)).setCell ⟨wD.heap.size, 2, none⟩ (.string a.dst)).setCell ⟨wD.heap.size, 3, none⟩ (.int .i64 a.at_)).setCell ⟨wD.heap.size, 4, none⟩ (.slice a.a1 a.old.length a.c1)).setCell ⟨wD.heap.size, 5, none⟩ (.slice a.a2 a.new.length a.c2)) = wt at *
              clear hwn
              refine wpAnyH_take (i := 14) (oi := { dst := some 11, op := _, type := _, pos := _, after := _, guard := _ }) (v := .int .i64 er) rfl (by kernel_rfl) (by kernel_rfl) (by kernel_rfl) (fun _ _ _ h => h) (Or.inl ⟨by rfl, fun w' hSw => ?_⟩) (by assumption) ?_
              · ((try dsimp only at hSw); go_simp)
              try simp only [Act.put, List.setIfInBounds_toArray, List.set_cons_zero, List.set_cons_succ]
              refine wpAnyH_done (by kernel_rfl) ?_ _
              refine NoPanic.normal ?_
              go_wp2_with fail
              go_meet
              case rel => exact ⟨wa11.heap.size, wD.heap.size, b, a, er, rfl, rfl, rfl, ⟨HPb.out, HPa.out, HOb.out, HOa.out, HKP.out, HLb.out, HLa.out, XBt.out⟩⟩
      case rest =>
        obtain ⟨gb, ga, b, a, er, rfl, rfl, rfl, HQ⟩ := hcut
        have hbl := HQ.out.2.2.2.2.2.2.2
        have HPX := Lib.hid (HI.out.px.on hbl)
        have HBN := Lib.hid (HI.out.below.trans (hbl.mono HI.out.below.size))
        have HJc := Lib.hid (⟨HJ.out.1.kept hbl, fun z hz => (HJ.out.2.1 z hz).below (hbl.mono HBW.out), HJ.out.2.2⟩ : OwnP wc (w.heap.size + 1) (.slice A2 n2 c2) ss ∧ (∀ z ∈ ss, z.Ok wc B) ∧ _)
        have HLB : Hid (LtK b.key ∧ LtK a.key) := pair_lt HLY.out HI.out.lt HQ.out.2.2.2.2.1
        have HBc : Hid (B ≤ wc.heap.size) := Nat.le_trans HBW.out hbl.size
        have HGL : Hid (w.heap.size ≠ gb ∧ w.heap.size ≠ ga) := by
          have h1 := HQ.out.2.2.2.2.2.1
          have h2 := HQ.out.2.2.2.2.2.2.1
          have h3 := HSZ.out
          show _ ∧ _
          omega
        clear hbl CP HKS HDR
        by_cases he : er = 0
        · subst he
          have HCN : Hid (consA (pkeys (a :: ss)) (aheadP ((pkeys l).take j).reverse b.key) = R9) := by
            show _ = _
            rw [← HC2.out, consA_ok HQ.out.2.2.2.2.1]
            rfl
          have g1 : wc.grownBy ((((((wc.setCell ⟨w.heap.size, 0, none⟩ (.int .i64 b.kind)).setCell ⟨w.heap.size, 1, none⟩ (.string b.p)).setCell ⟨w.heap.size, 2, none⟩ (.string b.dst)).setCell ⟨w.heap.size, 3, none⟩ (.int .i64 b.at_)).setCell ⟨w.heap.size, 4, none⟩ (.slice b.a1 b.old.length b.c1)).setCell ⟨w.heap.size, 5, none⟩ (.slice b.a2 b.new.length b.c2)) (some w.heap.size) := setPrim_grown wc w.heap.size b
          have bw : Below w.heap.size w ((((((wc.setCell ⟨w.heap.size, 0, none⟩ (.int .i64 b.kind)).setCell ⟨w.heap.size, 1, none⟩ (.string b.p)).setCell ⟨w.heap.size, 2, none⟩ (.string b.dst)).setCell ⟨w.heap.size, 3, none⟩ (.int .i64 b.at_)).setCell ⟨w.heap.size, 4, none⟩ (.slice b.a1 b.old.length b.c1)).setCell ⟨w.heap.size, 5, none⟩ (.slice b.a2 b.new.length b.c2)) := below_prim b HBN.out (Nat.le_refl _) HBN.out.size
          have bB : Below B wc ((((((wc.setCell ⟨w.heap.size, 0, none⟩ (.int .i64 b.kind)).setCell ⟨w.heap.size, 1, none⟩ (.string b.p)).setCell ⟨w.heap.size, 2, none⟩ (.string b.dst)).setCell ⟨w.heap.size, 3, none⟩ (.int .i64 b.at_)).setCell ⟨w.heap.size, 4, none⟩ (.slice b.a1 b.old.length b.c1)).setCell ⟨w.heap.size, 5, none⟩ (.slice b.a2 b.new.length b.c2)) := below_prim b (Below.refl B wc) HBW0.out HBc.out
          have HFI : Hid (FrontI w ((((((wc.setCell ⟨w.heap.size, 0, none⟩ (.int .i64 b.kind)).setCell ⟨w.heap.size, 1, none⟩ (.string b.p)).setCell ⟨w.heap.size, 2, none⟩ (.string b.dst)).setCell ⟨w.heap.size, 3, none⟩ (.int .i64 b.at_)).setCell ⟨w.heap.size, 4, none⟩ (.slice b.a1 b.old.length b.c1)).setCell ⟨w.heap.size, 5, none⟩ (.slice b.a2 b.new.length b.c2)) B b A2 n2 c2 ss) := ⟨setPrim_at HPX.out b, HQ.out.2.2.1.below bB, HLB.out.1, bw⟩
          have HPA : Hid (PrimAt ((((((wc.setCell ⟨w.heap.size, 0, none⟩ (.int .i64 b.kind)).setCell ⟨w.heap.size, 1, none⟩ (.string b.p)).setCell ⟨w.heap.size, 2, none⟩ (.string b.dst)).setCell ⟨w.heap.size, 3, none⟩ (.int .i64 b.at_)).setCell ⟨w.heap.size, 4, none⟩ (.slice b.a1 b.old.length b.c1)).setCell ⟨w.heap.size, 5, none⟩ (.slice b.a2 b.new.length b.c2)) ga a) := HQ.out.2.1.grown g1 (by simpa using HGL.out.2)
          have HOS : Hid (OwnP ((((((wc.setCell ⟨w.heap.size, 0, none⟩ (.int .i64 b.kind)).setCell ⟨w.heap.size, 1, none⟩ (.string b.p)).setCell ⟨w.heap.size, 2, none⟩ (.string b.dst)).setCell ⟨w.heap.size, 3, none⟩ (.int .i64 b.at_)).setCell ⟨w.heap.size, 4, none⟩ (.slice b.a1 b.old.length b.c1)).setCell ⟨w.heap.size, 5, none⟩ (.slice b.a2 b.new.length b.c2)) (w.heap.size + 1) (.slice A2 n2 c2) ss) := HJc.out.1.box g1 (by omega)
          have HAO : Hid (a.Ok ((((((wc.setCell ⟨w.heap.size, 0, none⟩ (.int .i64 b.kind)).setCell ⟨w.heap.size, 1, none⟩ (.string b.p)).setCell ⟨w.heap.size, 2, none⟩ (.string b.dst)).setCell ⟨w.heap.size, 3, none⟩ (.int .i64 b.at_)).setCell ⟨w.heap.size, 4, none⟩ (.slice b.a1 b.old.length b.c1)).setCell ⟨w.heap.size, 5, none⟩ (.slice b.a2 b.new.length b.c2)) B) := HQ.out.2.2.2.1.below bB
          have HSK : Hid (∀ z ∈ ss, z.Ok ((((((wc.setCell ⟨w.heap.size, 0, none⟩ (.int .i64 b.kind)).setCell ⟨w.heap.size, 1, none⟩ (.string b.p)).setCell ⟨w.heap.size, 2, none⟩ (.string b.dst)).setCell ⟨w.heap.size, 3, none⟩ (.int .i64 b.at_)).setCell ⟨w.heap.size, 4, none⟩ (.slice b.a1 b.old.length b.c1)).setCell ⟨w.heap.size, 5, none⟩ (.slice b.a2 b.new.length b.c2)) B) := fun z hz => (HJc.out.2.1 z hz).below bB
          have HB8 : Hid (B ≤ ((((((wc.setCell ⟨w.heap.size, 0, none⟩ (.int .i64 b.kind)).setCell ⟨w.heap.size, 1, none⟩ (.string b.p)).setCell ⟨w.heap.size, 2, none⟩ (.string b.dst)).setCell ⟨w.heap.size, 3, none⟩ (.int .i64 b.at_)).setCell ⟨w.heap.size, 4, none⟩ (.slice b.a1 b.old.length b.c1)).setCell ⟨w.heap.size, 5, none⟩ (.slice b.a2 b.new.length b.c2)).heap.size) := Nat.le_trans HBW0.out bw.size
          have HLN : Hid (ss.length + (j + 1) ≤ i) := HJc.out.2.2
          have b0 := HQ.out.1.c0
          have b1 := HQ.out.1.c1
          have b2 := HQ.out.1.c2
          have b3 := HQ.out.1.c3
          have b4 := HQ.out.1.c4
          have b5 := HQ.out.1.c5
          have f0 := HPX.out.c0
          have f1 := HPX.out.c1
          have f2 := HPX.out.c2
          have f3 := HPX.out.c3
          have f4 := HPX.out.c4
          have f5 := HPX.out.c5
          have ff0 := HPX.out.fz 0
          have ff1 := HPX.out.fz 1
          have ff2 := HPX.out.fz 2
          have ff3 := HPX.out.fz 3
          have ff4 := HPX.out.fz 4
          have ff5 := HPX.out.fz 5
          clear g1 bw bB HPX HJc HJ HI HBN HC2 HQ HFR
          go_upto_region 12 with (fail)
          clear b0 b1 b2 b3 b4 b5 f0 f1 f2 f3 f4 f5 ff0 ff1 ff2 ff3 ff4 ff5
          generalize hwx : ((((((wc.setCell ⟨w.heap.size, 0, none⟩ (.int .i64 b.kind)).setCell ⟨w.heap.size, 1, none⟩ (.string b.p)).setCell ⟨w.heap.size, 2, none⟩ (.string b.dst)).setCell ⟨w.heap.size, 3, none⟩ (.int .i64 b.at_)).setCell ⟨w.heap.size, 4, none⟩ (.slice b.a1 b.old.length b.c1)).setCell ⟨w.heap.size, 5, none⟩ (.slice b.a2 b.new.length b.c2)) = wx at *
          clear hwx
          have z0 := HPA.out.c0
          have z1 := HPA.out.c1
          have z2 := HPA.out.c2
          have z3 := HPA.out.c3
          have z4 := HPA.out.c4
          have z5 := HPA.out.c5
          have hax : Below wx.heap.size wx (wx.alloc (.cells #[.int .i64 a.kind, .string a.p, .string a.dst, .int .i64 a.at_, .slice a.a1 a.old.length a.c1, .slice a.a2 a.new.length a.c2] 33)) := (Below.refl _ _).alloc (Nat.le_refl _) _
          have HOW := Lib.hid (own_onep wx wx.heap.size a (Nat.le_refl _))
          have HJA := Lib.hid ((RowB.of_own HOS.out HB8.out HSK.out).on HB8.out hax)
          have HAX := Lib.hid hax
          obtain ⟨N, hN⟩ : ∃ N, N = [a].length + ss.length := ⟨_, rfl⟩
          have HN := Lib.hid hN
          have hs5 : ss.length ≤ 500 := by have := HLN.out; omega
          clear hax hN
          go_wp2_with (at_builtin; refine wpList_append_prims rfl _ _ rfl wx.heap.size (.slice (some ⟨wx.heap.size, 0, none⟩) 1 1) [a] rfl HOW.out ss A2 n2 c2 rfl HJA.out.len HJA.out.room.1 HJA.out.at_ HAX.out.size (by simp only [List.length_cons, List.length_nil]; omega) N HN.out ?_)
          intro A4 c4 w4 ho4 hg4
          have hb4 : Below wx.heap.size wx w4 := below_appendp HAX.out HOW.out hg4 (Nat.le_refl _)
          have HRN : Hid (OwnP w4 (w.heap.size + 1) (.slice A4 N c4) (a :: ss) ∧ (∀ z ∈ a :: ss, z.Ok w4 B) ∧ (a :: ss).length + j ≤ i) := by
            refine ⟨OwnP.lower ho4 (by have := HFI.out.px.lt; omega), (fun x hx => ?_), by have := HLN.out; simp only [List.length_cons]; omega⟩
            rcases List.mem_cons.1 hx with rfl | hx
            · exact HAO.out.below (hb4.mono HB8.out)
            · exact (HSK.out x hx).below (hb4.mono HB8.out)
          have HIN : Hid (FrontI w w4 B b A4 N c4 (a :: ss)) := ⟨HFI.out.px.on hb4, HFI.out.xok.below (hb4.mono HB8.out), HFI.out.lt, HFI.out.below.trans (hb4.mono HFI.out.below.size)⟩
          have q2 : IntKind.i64.wrap ((j : Int) - 1) = (j : Int) - 1 := IntWalk.i64_in _ (by omega)
          clear ho4 hg4 hb4 HOW HJA HAX HN HFI HPA HOS HAO HSK HLN z0 z1 z2 z3 z4 z5
          go_wp2
          go_roundw
          case rel =>
            first
            | exact ⟨j, b, A4, N, c4, a :: ss, rfl, rfl, by omega, HIN.out, HCN.out, HRN.out⟩
            | ((repeat apply Exists.intro); exact ⟨⟨rfl, rfl, by omega, HIN.out, HCN.out, HRN.out⟩, rfl⟩)
          case measure => simp [intOf] <;> omega
        · have ke : (er != 0) = true := by simpa using he
          have hR : R8 = (er, []) := by
            rw [HFR.out, ← HC2.out, consA_err HQ.out.2.2.2.2.1 he]
            simp [frontOf, he]
          have HF : Hid (FrontB w B R8 (.returned (.tuple #[.slice none 0 0, .int .i64 er])) wc) := ⟨none, 0, 0, [], er, rfl, ⟨RowB.nil _ _, hR⟩, HBN.out⟩
          clear he hR HFR HC2 HJ HJc HI HQ
          go_wp2
          go_ret2
          exact HF.out
end Go.Proofs.YtalabahjfmcnbaaGreatDoor
