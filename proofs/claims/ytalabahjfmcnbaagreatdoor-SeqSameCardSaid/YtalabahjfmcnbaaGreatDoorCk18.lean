/- Package seq's copied: a row of steps, their lines in memory of their own. -/
import Derived.BigQuiet
import Derived.Deep.QuietTactic
import Derived.Handy
import Derived.Laws.Cover1
import Derived.Sort.OwnSorted
import Derived.Deep.RegionHeld3
import Derived.Deep.DrawnRows
import Derived.Deep.RegionLaw
import Derived.Test.YtalabahjfmcnbaaGreatDoorShelf
import Derived.Deep.RegionHeld
import Derived.Deep.CutRange
import Derived.Test.YtalabahjfmcnbaaGreatDoorCk15
namespace Go.Proofs.YtalabahjfmcnbaaGreatDoor
open Go.RowKit
set_option linter.unusedVariables false

/-- What copied's loop holds: a row of the call's own; no step of it is touched when the row is written on. -/
structure CopI (w wr : World) (A : Option Addr) (n c k : Nat) (ks : List Pk) (rs : List Pm) : Prop where
  own : OwnP wr w.heap.size (.slice A n c) rs
  ok : ∀ z ∈ rs, ∀ W', wr.grownBy W' (Value.slice A n c).ownBlock → z.Ok W' W'.heap.size
  sz : ∀ z ∈ rs, z.old.length ≤ 1000000 ∧ z.new.length ≤ 1000000
  key : pkeys rs = ks
  sep : ∀ j (h : j < rs.length), j < k → rs[j].Sep wr
  below : Below w.heap.size w wr
/-- Steps come back, as they are, in memory of their own. -/
def CopyL (w : World) (ks : List Pk) (e : Ending) (w' : World) : Prop :=
  ∃ (A : Option Addr) (n c : Nat) (rs : List Pm), e = .returned (.slice A n c) ∧ Hid (RowW w' A n c rs ∧ pkeys rs = ks ∧ OwnP w' w.heap.size (.slice A n c) rs ∧ ∀ z ∈ rs, z.Sep w') ∧ Below w.heap.size w w'
theorem CopI.fin {w wr : World} {A : Option Addr} {n c : Nat} {ks : List Pk} {rs : List Pm} (h : CopI w wr A n c n ks rs) : CopyL w ks (.returned (.slice A n c)) wr := by
  have hok : ∀ z ∈ rs, z.Ok wr wr.heap.size := fun z hz => h.ok z hz wr (below_grown1 (Below.refl _ _) _)
  refine ⟨A, n, c, rs, rfl, ⟨RowB.of_own h.own (Nat.le_refl _) hok, h.key, h.own, fun z hz => ?_⟩, h.below⟩
  obtain ⟨j, hj, rfl⟩ := List.getElem_of_mem hz
  exact h.sep j hj (by rw [h.own.flat.1]; exact hj)
theorem CopI.step {w wr w8 : World} {g n c k k7 k8 : Nat} {ks : List Pk} {rs : List Pm} {x : Pm} {A7 A8 : Option Addr} {B7 B8 : Nat} (h : CopI w wr (some ⟨g, 0, none⟩) n c k ks rs) (hk : k < rs.length) (hx : rs[k] = x) (hb : Below wr.heap.size wr w8) (ho : x.Ok w8 w8.heap.size)
    (h7 : OwnS w8 B7 (.slice A7 x.old.length k7) x.old) (h8 : OwnS w8 B8 (.slice A8 x.new.length k8) x.new) :
    CopI w ((w8.setCell ⟨g, k * 6 + 4, none⟩ (.slice A7 x.old.length k7)).setCell ⟨g, k * 6 + 5, none⟩ (.slice A8 x.new.length k8)) (some ⟨g, 0, none⟩) n c (k + 1) ks (rs.set k ⟨x.kind, x.p, x.dst, x.at_, A7, k7, x.old, A8, k8, x.new⟩) := by
  have own8 := h.own.kept hb
  have hput := own8.put45 hk A7 A8 k7 k8 x.old x.new
  rw [hx] at hput
  obtain ⟨p1, p2⟩ := hput
  obtain ⟨cur, fz, htype⟩ := own8.type_of (g := g) rfl
  have hS : Pm.Sep ⟨x.kind, x.p, x.dst, x.at_, A7, k7, x.old, A8, k8, x.new⟩ w8 := by
    obtain ⟨B1, d1, e1, s1, _, _⟩ := h7.strs
    obtain ⟨B2, d2, e2, s2, _, _⟩ := h8.strs
    simp only [Value.slice.injEq] at e1 e2
    obtain ⟨rfl, _, rfl⟩ := e1
    obtain ⟨rfl, _, rfl⟩ := e2
    exact ⟨⟨⟨s1, s2, h7.at_.2.1, h8.at_.2.1, ho.h.lo, ho.h.hi, ho.h.n1, ho.h.n2⟩, ho.p, ho.q, ho.lo, ho.hi⟩, h7.blk, h8.blk⟩
  have gr : wr.grownBy ((w8.setCell ⟨g, k * 6 + 4, none⟩ (.slice A7 x.old.length k7)).setCell ⟨g, k * 6 + 5, none⟩ (.slice A8 x.new.length k8)) (some g) := grown_on (below_grown1 hb _) p2
  have hxs := h.sz x (by rw [← hx]; exact List.getElem_mem _)
  refine ⟨p1, fun z hz W' hW => ?_, fun z hz => ?_, ?_, fun j hj hjk => ?_, ?_⟩
  · rcases List.mem_or_eq_of_mem_set hz with hz | rfl
    · exact h.ok z hz W' (grown_on gr hW)
    · exact (hS.grown htype (by decide) (grown_on p2 hW)).1
  · rcases List.mem_or_eq_of_mem_set hz with hz | rfl
    · exact h.sz z hz
    · exact hxs
  · rw [← h.key]
    unfold pkeys
    rw [List.map_set]
    have e : (rs.map Pm.key)[k]? = some x.key := by simp [hk, hx]
    obtain ⟨hk2, e2⟩ := List.getElem?_eq_some_iff.1 e
    conv => rhs; rw [← List.set_getElem_self hk2]
    rw [e2]
    rfl
  · rw [List.getElem_set]
    split
    · exact hS.grown htype (by decide) p2
    · exact ((h.sep j (by simpa using hj) (by omega)).on hb).grown htype (by decide) p2
  · exact (h.below.trans (hb.mono h.below.size)).grown p2 (Nat.le_trans h.below.size hb.size) fun j e => by cases e; exact ownBlock_gep h.own _ rfl
set_option maxHeartbeats 8000000 in
set_option maxRecDepth 100000 in
theorem qcopied_any (A : Option Addr) (l : List Pm) (n c : Nat) (w : World) (hl : RowW w A n c l) (hn : l.length ≤ 50000) (hm : ∀ x ∈ l, x.old.length ≤ 1000000 ∧ x.new.length ≤ 1000000) :
    Calls Tryz.prog 29 #[.slice A n c] w (CopyL w (pkeys l)) := by
  have CC := Lib.hid (pclone_any A l n c w hl.len hl.at_ hl.room (by omega))
  have HL := Lib.hid hl
  have HM := Lib.hid hm
  have hnn : n ≤ 50000 := by rw [hl.len]; exact hn
  clear hl hm hn
  go_enter Tryz.func29, Tryz.ntmps29
  go_wp2_with fail
  refine CC.out.mono ?_
  rintro e w1 ⟨A1, c1, rfl, ho, hb⟩
  have HI0 : Hid (CopI w w1 A1 n c1 0 (pkeys l) l) := by
    refine ⟨ho, fun z hz W' hg => ?_, HM.out, rfl, fun j _ h => absurd h (Nat.not_lt_zero _), hb⟩
    have hB : Below w.heap.size w W' := hb.grown hg hb.size fun j e => ownBlock_gep ho j e
    exact (HL.out.at_.ok z hz).on hB
  clear ho hb CC HL HM
  go_wp2
  go_loopw [10] (fun iv wr => ∃ (k : Nat) (rs : List Pm), iv = .int .i64 (k : Int) ∧ k ≤ n ∧ Hid (CopI w wr A1 n c1 k (pkeys l) rs)) (fun iv _ => n - (intOf iv).toNat)
  case atStart => exact ⟨0, l, rfl, Nat.zero_le _, HI0.out⟩
  case round =>
    clear HI0
    obtain ⟨k, rs, rfl, hk, HI⟩ := hrel
    by_cases hlt : k < n
    · have hkr : k < rs.length := by rw [← HI.out.own.flat.1]; exact hlt
      obtain ⟨g, rfl, hgB, hgl, d0, d1, d2, d3, d4, d5⟩ := HI.out.own.get hkr
      obtain ⟨x, hx⟩ : ∃ x, rs[k] = x := ⟨_, rfl⟩
      have HXE := Lib.hid hx
      have HKR := Lib.hid hkr
      have hxo : x.Ok wr wr.heap.size := HI.out.ok x (by rw [← hx]; exact List.getElem_mem _) wr (below_grown1 (Below.refl _ _) _)
      have hxl := HI.out.sz x (by rw [← hx]; exact List.getElem_mem _)
      rw [hx] at d0 d1 d2 d3 d4 d5
      have hal : Below wr.heap.size wr (wr.alloc (.cells #[.int .i64 x.kind, .string x.p, .string x.dst, .int .i64 x.at_, .slice x.a1 x.old.length x.c1, .slice x.a2 x.new.length x.c2] 33)) := (Below.refl _ _).alloc (Nat.le_refl _) _
      have HP : Hid (PrimAt (wr.alloc (.cells #[.int .i64 x.kind, .string x.p, .string x.dst, .int .i64 x.at_, .slice x.a1 x.old.length x.c1, .slice x.a2 x.new.length x.c2] 33)) wr.heap.size x) := PrimAt.new_ wr x
      have HXO : Hid (x.Ok (wr.alloc (.cells #[.int .i64 x.kind, .string x.p, .string x.dst, .int .i64 x.at_, .slice x.a1 x.old.length x.c1, .slice x.a2 x.new.length x.c2] 33)) (wr.alloc (.cells #[.int .i64 x.kind, .string x.p, .string x.dst, .int .i64 x.at_, .slice x.a1 x.old.length x.c1, .slice x.a2 x.new.length x.c2] 33)).heap.size) := hxo.on hal
      have HXL := Lib.hid hxl
      have HAL := Lib.hid hal
      have HGP : Hid (g ≠ wr.heap.size) := by show _ ≠ _; omega
      have HMS : Hid (∀ W, Below (wr.alloc (.cells #[.int .i64 x.kind, .string x.p, .string x.dst, .int .i64 x.at_, .slice x.a1 x.old.length x.c1, .slice x.a2 x.new.length x.c2] 33)).heap.size (wr.alloc (.cells #[.int .i64 x.kind, .string x.p, .string x.dst, .int .i64 x.at_, .slice x.a1 x.old.length x.c1, .slice x.a2 x.new.length x.c2] 33)) W → W.cell? ⟨g, k * 6 + 4, none⟩ = some (.slice x.a1 x.old.length x.c1) ∧ W.cell? ⟨g, k * 6 + 5, none⟩ = some (.slice x.a2 x.new.length x.c2) ∧ W.frozen? ⟨g, k * 6 + 4, none⟩ = false ∧ W.frozen? ⟨g, k * 6 + 5, none⟩ = false) := by
        intro W hW
        have hb := hal.trans (hW.mono hal.size)
        exact ⟨cell_on d4 hb, cell_on d5 hb, (HI.out.own.kept hb).at0 _, (HI.out.own.kept hb).at0 _⟩
      have u1 : (0 : Int) ≤ (k : Int) := by omega
      have u2 : (k : Int) < (n : Int) := by omega
      clear hx hxo hxl hal
      go_upto_region 5 with (fail)
      clear d0 d1 d2 d3 d4 d5
      generalize hwb : (wr.alloc (.cells #[.int .i64 x.kind, .string x.p, .string x.dst, .int .i64 x.at_, .slice x.a1 x.old.length x.c1, .slice x.a2 x.new.length x.c2] 33)) = wb at *
      clear hwb
      generalize hgp : wr.heap.size = gp at *
      have HKS : Hid (∀ W, Below wb.heap.size wb W → W.cell? ⟨gp, 4, none⟩ = some (.slice x.a1 x.old.length x.c1) ∧ W.cell? ⟨gp, 5, none⟩ = some (.slice x.a2 x.new.length x.c2)) := fun W hW => ⟨(HP.out.on hW).c4, (HP.out.on hW).c5⟩
      have HDR : Hid (Below wb.heap.size wb wb.drew) := (Below.refl _ _).drew
      refine wp_region_noPanic ?_
      refine wp_region_held_drew (S := (fun w' => w'.cell? ⟨gp, 4, none⟩ = some (.slice x.a1 x.old.length x.c1) ∧ w'.cell? ⟨gp, 5, none⟩ = some (.slice x.a2 x.new.length x.c2))) (by kernel_rfl) (HKS.out _ HDR.out) (fun hHeld => ?_)
      refine wpAnyH_take (i := 0) (oi := { dst := some 15, op := _, type := _, pos := _, after := _, guard := _ }) (v := .slice (some ⟨g, 0, none⟩) n c1) rfl (by kernel_rfl) (by kernel_rfl) (by kernel_rfl) (fun _ _ _ h => h) (Or.inl ⟨by rfl, fun w' hSw => ?_⟩) (by assumption) ?_
      · ((try dsimp only at hSw); go_simp)
      try simp only [Act.put, List.setIfInBounds_toArray, List.set_cons_zero, List.set_cons_succ]
      refine wpAnyH_take (i := 1) (oi := { dst := some 16, op := _, type := _, pos := _, after := _, guard := _ }) (v := .int .i64 (k : Int)) rfl (by kernel_rfl) (by kernel_rfl) (by kernel_rfl) (fun _ _ _ h => h) (Or.inl ⟨by rfl, fun w' hSw => ?_⟩) (by assumption) ?_
      · ((try dsimp only at hSw); go_simp)
      try simp only [Act.put, List.setIfInBounds_toArray, List.set_cons_zero, List.set_cons_succ]
      refine wpAnyH_take (i := 2) (oi := { dst := some 17, op := _, type := _, pos := _, after := _, guard := _ }) (v := .slice (some ⟨g, 0, none⟩) n c1) rfl (by kernel_rfl) (by kernel_rfl) (by kernel_rfl) (fun _ _ _ h => h) (Or.inl ⟨by rfl, fun w' hSw => ?_⟩) (by assumption) ?_
      · ((try dsimp only at hSw); go_simp)
      try simp only [Act.put, List.setIfInBounds_toArray, List.set_cons_zero, List.set_cons_succ]
      refine wpAnyH_take (i := 3) (oi := { dst := some 18, op := _, type := _, pos := _, after := _, guard := _ }) (v := .int .i64 (k : Int)) rfl (by kernel_rfl) (by kernel_rfl) (by kernel_rfl) (fun _ _ _ h => h) (Or.inl ⟨by rfl, fun w' hSw => ?_⟩) (by assumption) ?_
      · ((try dsimp only at hSw); go_simp)
      try simp only [Act.put, List.setIfInBounds_toArray, List.set_cons_zero, List.set_cons_succ]
      refine wpAnyH_take (i := 4) (oi := { dst := some 19, op := _, type := _, pos := _, after := _, guard := _ }) (v := .pointer (some ⟨gp, 4, none⟩)) rfl (by kernel_rfl) (by kernel_rfl) (by kernel_rfl) (fun _ _ _ h => h) (Or.inl ⟨by rfl, fun w' hSw => ?_⟩) (by assumption) ?_
      · ((try dsimp only at hSw); go_simp)
      try simp only [Act.put, List.setIfInBounds_toArray, List.set_cons_zero, List.set_cons_succ]
      refine wpAnyH_take (i := 5) (oi := { dst := some 20, op := _, type := _, pos := _, after := _, guard := _ }) (v := .slice x.a1 x.old.length x.c1) rfl (by kernel_rfl) (by kernel_rfl) (by kernel_rfl) (fun _ _ _ h => h) (Or.inl ⟨by rfl, fun w' hSw => ?_⟩) (by assumption) ?_
      · ((try dsimp only at hSw); go_simp)
      try simp only [Act.put, List.setIfInBounds_toArray, List.set_cons_zero, List.set_cons_succ]
      refine wpAnyH_take (i := 7) (oi := { dst := some 22, op := _, type := _, pos := _, after := _, guard := _ }) (v := .pointer (some ⟨gp, 5, none⟩)) rfl (by kernel_rfl) (by kernel_rfl) (by kernel_rfl) (fun _ _ _ h => h) (Or.inl ⟨by rfl, fun w' hSw => ?_⟩) (by assumption) ?_
      · ((try dsimp only at hSw); go_simp)
      try simp only [Act.put, List.setIfInBounds_toArray, List.set_cons_zero, List.set_cons_succ]
      refine wpAnyH_take (i := 8) (oi := { dst := some 23, op := _, type := _, pos := _, after := _, guard := _ }) (v := .slice x.a2 x.new.length x.c2) rfl (by kernel_rfl) (by kernel_rfl) (by kernel_rfl) (fun _ _ _ h => h) (Or.inl ⟨by rfl, fun w' hSw => ?_⟩) (by assumption) ?_
      · ((try dsimp only at hSw); go_simp)
      try simp only [Act.put, List.setIfInBounds_toArray, List.set_cons_zero, List.set_cons_succ]
      have XB0 := Lib.hid HDR.out
      generalize hwD : wb.drew = wD at *
      clear hwD HDR
      refine wpAnyH_ready (rs := [6]) (by kernel_rfl) (by simp) ?_
      refine AllReadyH.cons rfl (fun K hK => ?_) AllReadyH.nil
      refine step_append_strs (by rfl) _ _ (by rfl) wD.heap.size (.slice none 0 0) [] x.old (by rfl) (OwnS.nil _ _) x.a1 x.c1 x.old.length (by rfl) rfl HXO.out.h.r1.1 (HXO.out.h.old.on XB0.out) (Nat.le_refl _) (by have := HXL.out.1; simp <;> omega) ?_
      intro v7 w7 ho7 hg7
      have hb7 : Below wb.heap.size wb w7 := XB0.out.grown hg7 XB0.out.size (fun k hk => by simp [Value.ownBlock] at hk)
      obtain ⟨A7, k7, rfl, s7, _, _⟩ := ho7.strs
      have XB7 := Lib.hid hb7
      have HO7 := Lib.hid ho7
      clear hb7 ho7 hg7 s7
      refine hK.out _ _ (HKS.out _ XB7.out) (fun hHeld6 => ?_)
      clear hK K hHeld
      try simp only [Act.put, List.setIfInBounds_toArray]
      refine wpAnyH_ready (rs := [9]) (by kernel_rfl) (by simp) ?_
      refine AllReadyH.cons rfl (fun K hK => ?_) AllReadyH.nil
      refine step_append_strs (by rfl) _ _ (by rfl) w7.heap.size (.slice none 0 0) [] x.new (by rfl) (OwnS.nil _ _) x.a2 x.c2 x.new.length (by rfl) rfl HXO.out.h.r2.1 (HXO.out.h.new.on XB7.out) (Nat.le_refl _) (by have := HXL.out.2; simp <;> omega) ?_
      intro v8 w8 ho8 hg8
      have hb78 : Below w7.heap.size w7 w8 := (Below.refl _ _).grown hg8 (Nat.le_refl _) (fun k hk => by simp [Value.ownBlock] at hk)
      have hb8 : Below wb.heap.size wb w8 := XB7.out.trans (hb78.mono XB7.out.size)
      replace HO7 := Lib.hid (HO7.out.kept hb78)
      obtain ⟨A8, k8, rfl, s8, _, _⟩ := ho8.strs
      have XB8 := Lib.hid hb8
      have HO8 := Lib.hid ho8
      clear hb8 hb78 ho8 hg8 s8
      refine hK.out _ _ (HKS.out _ XB8.out) (fun hHeld9 => ?_)
      clear hK K hHeld6
      try simp only [Act.put]
      refine wpAnyH_take (i := 10) (oi := { dst := some 25, op := _, type := _, pos := _, after := _, guard := _ }) (v := .pointer (some ⟨g, k * 6, none⟩)) rfl (by kernel_rfl) (by kernel_rfl) (by kernel_rfl) (fun _ _ _ h => h) (Or.inl ⟨by rfl, fun w' hSw => ?_⟩) (by assumption) ?_
      · ((try dsimp only at hSw); go_simp)
      try simp only [Act.put]
      refine wpAnyH_take (i := 11) (oi := { dst := some 26, op := _, type := _, pos := _, after := _, guard := _ }) (v := .pointer (some ⟨g, k * 6 + 4, none⟩)) rfl (by kernel_rfl) (by kernel_rfl) (by kernel_rfl) (fun _ _ _ h => h) (Or.inl ⟨by rfl, fun w' hSw => ?_⟩) (by assumption) ?_
      · ((try dsimp only at hSw); go_simp)
      try simp only [Act.put]
      refine wpAnyH_ready (rs := [12]) (by kernel_rfl) (by simp) ?_
      refine AllReadyH.cons rfl (fun K hK => ?_) AllReadyH.nil
      obtain ⟨m4, m5, mf4, mf5⟩ := HMS.out _ XB8.out
      have HS9 : Hid ((w8.setCell ⟨g, k * 6 + 4, none⟩ (.slice A7 x.old.length k7)).cell? ⟨gp, 4, none⟩ = some (.slice x.a1 x.old.length x.c1) ∧ (w8.setCell ⟨g, k * 6 + 4, none⟩ (.slice A7 x.old.length k7)).cell? ⟨gp, 5, none⟩ = some (.slice x.a2 x.new.length x.c2)) := by
        have h := HKS.out _ XB8.out
        exact ⟨(World.cell?_setCell_far _ _ _ _ HGP.out).trans h.1, (World.cell?_setCell_far _ _ _ _ HGP.out).trans h.2⟩
      have n5 : (w8.setCell ⟨g, k * 6 + 4, none⟩ (.slice A7 x.old.length k7)).cell? ⟨g, k * 6 + 5, none⟩ = some (.slice x.a2 x.new.length x.c2) := (World.cell?_setCell_other _ _ _ _ (by simp)).trans m5
      have nf5 : (w8.setCell ⟨g, k * 6 + 4, none⟩ (.slice A7 x.old.length k7)).frozen? ⟨g, k * 6 + 5, none⟩ = false := (World.frozen?_setCell _ _ _ _).trans mf5
      have HN5 := Lib.hid n5
      have HNF5 := Lib.hid nf5
      clear m5 mf5 n5 nf5
      go_simp
      refine hK.out _ _ HS9.out (fun hHeld12 => ?_)
      clear hK K hHeld9 m4 mf4
      try simp only [Act.put, List.setIfInBounds_toArray, List.set_cons_zero, List.set_cons_succ]
      refine wpAnyH_take (i := 13) (oi := { dst := some 27, op := _, type := _, pos := _, after := _, guard := _ }) (v := .pointer (some ⟨g, k * 6, none⟩)) rfl (by kernel_rfl) (by kernel_rfl) (by kernel_rfl) (fun _ _ _ h => h) (Or.inl ⟨by rfl, fun w' hSw => ?_⟩) (by assumption) ?_
      · ((try dsimp only at hSw); go_simp)
      try simp only [Act.put, List.setIfInBounds_toArray, List.set_cons_zero, List.set_cons_succ]
      refine wpAnyH_take (i := 14) (oi := { dst := some 28, op := _, type := _, pos := _, after := _, guard := _ }) (v := .pointer (some ⟨g, k * 6 + 5, none⟩)) rfl (by kernel_rfl) (by kernel_rfl) (by kernel_rfl) (fun _ _ _ h => h) (Or.inl ⟨by rfl, fun w' hSw => ?_⟩) (by assumption) ?_
      · ((try dsimp only at hSw); go_simp)
      try simp only [Act.put, List.setIfInBounds_toArray, List.set_cons_zero, List.set_cons_succ]
      refine wpAnyH_ready (rs := [15]) (by kernel_rfl) (by simp) ?_
      refine AllReadyH.cons rfl (fun K hK => ?_) AllReadyH.nil
      have n5 := HN5.out
      have nf5 := HNF5.out
      have HS10 : Hid (((w8.setCell ⟨g, k * 6 + 4, none⟩ (.slice A7 x.old.length k7)).setCell ⟨g, k * 6 + 5, none⟩ (.slice A8 x.new.length k8)).cell? ⟨gp, 4, none⟩ = some (.slice x.a1 x.old.length x.c1) ∧ ((w8.setCell ⟨g, k * 6 + 4, none⟩ (.slice A7 x.old.length k7)).setCell ⟨g, k * 6 + 5, none⟩ (.slice A8 x.new.length k8)).cell? ⟨gp, 5, none⟩ = some (.slice x.a2 x.new.length x.c2)) :=
        ⟨(World.cell?_setCell_far _ _ _ _ HGP.out).trans HS9.out.1, (World.cell?_setCell_far _ _ _ _ HGP.out).trans HS9.out.2⟩
      go_simp
      refine hK.out _ _ HS10.out (fun hHeld15 => ?_)
      clear hK K hHeld12 n5 nf5 HN5 HNF5
      try simp only [Act.put, List.setIfInBounds_toArray, List.set_cons_zero, List.set_cons_succ]
      refine wpAnyH_done (by kernel_rfl) ?_ _
      refine NoPanic.normal ?_
      have HN : Hid (CopI w ((w8.setCell ⟨g, k * 6 + 4, none⟩ (.slice A7 x.old.length k7)).setCell ⟨g, k * 6 + 5, none⟩ (.slice A8 x.new.length k8)) (some ⟨g, 0, none⟩) n c1 (k + 1) (pkeys l) (rs.set k ⟨x.kind, x.p, x.dst, x.at_, A7, k7, x.old, A8, k8, x.new⟩)) := by
        subst hgp
        exact HI.out.step HKR.out HXE.out (HAL.out.trans (XB8.out.mono HAL.out.size)) (HXO.out.on XB8.out) HO7.out HO8.out
      clear HI HP HXO HXL HAL HGP HMS HKS XB0 XB7 XB8 HO7 HO8 HS9 HS10 HXE HKR
      go_wp2
      go_roundw
      case rel =>
        first
        | exact ⟨k + 1, _, by go_num, by omega, HN.out⟩
        | ((repeat apply Exists.intro); exact ⟨⟨by go_num, by omega, HN.out⟩, rfl⟩)
      case measure => simp [intOf]; omega
    · obtain rfl : k = n := by omega
      have HF := Lib.hid HI.out.fin
      clear HI
      go_wp2
      go_ret
      exact HF.out
end Go.Proofs.YtalabahjfmcnbaaGreatDoor
