/- Package fuse's copied. Steps that are kept while a row of another type grows. Package fuse's joined, All. -/
import Derived.Test.YtempamboacbgiaaDoorCk04
import Derived.Test.YtempamboacbgiaaDoorCk13
import Derived.Test.YtempamboacbgiaaDoorCk01
import Derived.Deep.RegionLaw
import Derived.Deep.RegionHeld3
import Derived.Test.YtempamboacbgiaaDoorCk19
namespace Go.Proofs.YtempamboacbgiaaDoor
open Go.RowKit
set_option linter.unusedVariables false

set_option maxHeartbeats 8000000 in
set_option maxRecDepth 100000 in
theorem fcopied_any (x : Pm) (w : World) (ok : x.Ok w w.heap.size) (m1 : x.old.length ≤ 1000000) (m2 : x.new.length ≤ 1000000) :
    Calls Tryd.prog 30 #[x.val] w (PrimLeft w x.key) := by
  obtain ⟨kind, p, q, at_, a1, c1, old, a2, c2, new⟩ := x
  unfold Pm.val
  simp only [] at m1 m2 ⊢
  obtain ⟨hal, hx, hp⟩ := boxes w ⟨kind, p, q, at_, a1, c1, old, a2, c2, new⟩
  have HX := Lib.hid hx
  have HP := Lib.hid hp
  have HO := Lib.hid (ok.on hal)
  have HA := Lib.hid hal
  have b0 : ((w.alloc (.cells #[.int .i64 kind, .string p, .string q, .int .i64 at_, .slice a1 old.length c1, .slice a2 new.length c2] 24)).alloc (.cells #[.int .i64 0, .string ⟨#[]⟩, .string ⟨#[]⟩, .int .i64 0, .slice none 0 0, .slice none 0 0] 24)).cell? ⟨w.heap.size, 4, none⟩ = some (.slice a1 old.length c1) := HX.out.c4
  have b1 : ((w.alloc (.cells #[.int .i64 kind, .string p, .string q, .int .i64 at_, .slice a1 old.length c1, .slice a2 new.length c2] 24)).alloc (.cells #[.int .i64 0, .string ⟨#[]⟩, .string ⟨#[]⟩, .int .i64 0, .slice none 0 0, .slice none 0 0] 24)).cell? ⟨w.heap.size, 5, none⟩ = some (.slice a2 new.length c2) := HX.out.c5
  clear hal hx hp ok
  go_enter Tryd.func30, Tryd.ntmps30
  go_wp2_with fail
  have e0 : ((w.alloc (.cells (Pm.cells ⟨kind, p, q, at_, a1, c1, old, a2, c2, new⟩).toArray 24)).alloc (.cells (Pm.cells ⟨0, ⟨#[]⟩, ⟨#[]⟩, 0, none, 0, [], none, 0, []⟩).toArray 24)) = ((w.alloc (.cells #[.int .i64 kind, .string p, .string q, .int .i64 at_, .slice a1 old.length c1, .slice a2 new.length c2] 24)).alloc (.cells #[.int .i64 0, .string ⟨#[]⟩, .string ⟨#[]⟩, .int .i64 0, .slice none 0 0, .slice none 0 0] 24)) := rfl
  rw [e0] at HX HP HO HA
  clear e0
  generalize ((w.alloc (.cells #[.int .i64 kind, .string p, .string q, .int .i64 at_, .slice a1 old.length c1, .slice a2 new.length c2] 24)).alloc (.cells #[.int .i64 0, .string ⟨#[]⟩, .string ⟨#[]⟩, .int .i64 0, .slice none 0 0, .slice none 0 0] 24)) = wa at *
  have hdr : Below wa.heap.size wa wa.drew := (Below.refl _ _).drew
  have HDR := Lib.hid hdr
  clear hdr
  go_region_law (first
    | (refine step_append_strs (by rfl) _ _ (by rfl) wa.heap.size (.slice none 0 0) [] old (by rfl) (OwnS.nil _ _) a1 c1 old.length (by rfl) rfl HO.out.h.r1.1 (HO.out.h.old.on HDR.out) (by simp) (by simp; omega) ?_
       intro v7 w7 ho7 hg7
       have hb7 : Below wa.heap.size wa w7 := HDR.out.grown hg7 (by simp) (fun k hk => by simp [Value.ownBlock] at hk)
       obtain ⟨A7, k7, rfl, s7, _, _⟩ := ho7.strs
       have z0 := (HX.out.on hb7).c5)
    | (refine step_append_strs (by rfl) _ _ (by rfl) wa.heap.size (.slice none 0 0) [] new (by rfl) (OwnS.nil _ _) a2 c2 new.length (by rfl) rfl HO.out.h.r2.1 (HO.out.h.new.on hb7) hb7.size (by simp; omega) ?_
       intro v8 w8 ho8 hg8
       have hb8 : Below wa.heap.size wa w8 := hb7.grown hg8 hb7.size (fun k hk => by simp [Value.ownBlock] at hk)
       have ho7' := ho7.kept ((Below.refl _ _).grown hg8 (Nat.le_refl _) (fun k hk => by simp [Value.ownBlock] at hk))
       obtain ⟨A8, k8, rfl, s8, _, _⟩ := ho8.strs
       have hx8 := HX.out.on hb8
       have x0 := hx8.c4
       have x1 := hx8.c5
       have y0 := hx8.fz 4
       have y1 := hx8.fz 5))
  all_goals
    have hS : Pm.Sep ⟨kind, p, q, at_, A7, k7, old, A8, k8, new⟩ w8 := by
      have ho7' := ho7.kept ((Below.refl w7.heap.size w7).grown hg8 (Nat.le_refl _) (fun k hk => by simp [Value.ownBlock] at hk))
      obtain ⟨B1, d1, e1, s1, _, _⟩ := ho7'.strs
      obtain ⟨B2, d2, e2, s2, _, _⟩ := ho8.strs
      simp only [Value.slice.injEq, List.nil_append] at e1 e2
      obtain ⟨rfl, _, rfl⟩ := e1
      obtain ⟨rfl, _, rfl⟩ := e2
      exact ⟨⟨⟨s1, s2, ho7'.at_.2.1, ho8.at_.2.1, HO.out.h.lo, HO.out.h.hi, HO.out.h.n1, HO.out.h.n2⟩, HO.out.p, HO.out.q, HO.out.lo, HO.out.hi⟩, ho7'.blk, ho8.blk⟩
    have hg9 := grown45 w8 w.heap.size (.slice A7 old.length k7) (.slice A8 new.length k8)
    have hQ : Hid (PrimAt ((w8.setCell ⟨w.heap.size, 4, none⟩ (.slice A7 old.length k7)).setCell ⟨w.heap.size, 5, none⟩ (.slice A8 new.length k8)) w.heap.size ⟨kind, p, q, at_, A7, k7, old, A8, k8, new⟩) := pm_at hx8 rfl rfl
    have hP : Hid (PrimAt ((w8.setCell ⟨w.heap.size, 4, none⟩ (.slice A7 old.length k7)).setCell ⟨w.heap.size, 5, none⟩ (.slice A8 new.length k8)) (w.heap.size + 1) ⟨0, ⟨#[]⟩, ⟨#[]⟩, 0, none, 0, [], none, 0, []⟩) := (HP.out.on hb8).grown hg9 (by simp)
    have hS9 : Hid (Pm.Sep ⟨kind, p, q, at_, A7, k7, old, A8, k8, new⟩ ((w8.setCell ⟨w.heap.size, 4, none⟩ (.slice A7 old.length k7)).setCell ⟨w.heap.size, 5, none⟩ (.slice A8 new.length k8))) := hS.grown hx8 (by decide) hg9
    have hB9 : Hid (Below w.heap.size w ((w8.setCell ⟨w.heap.size, 4, none⟩ (.slice A7 old.length k7)).setCell ⟨w.heap.size, 5, none⟩ (.slice A8 new.length k8))) := (HA.out.trans (hb8.mono HA.out.size)).grown hg9 (Nat.le_trans HA.out.size hb8.size) fun k hk => by simp only [Option.some.injEq] at hk; omega
    clear hS hg9 hx8 ho7 ho8 hg7 hg8 hb7 hb8 s7 s8 x0 x1 y0 y1 b0 b1 z0 ho7'
    generalize ((w8.setCell ⟨w.heap.size, 4, none⟩ (.slice A7 old.length k7)).setCell ⟨w.heap.size, 5, none⟩ (.slice A8 new.length k8)) = w9 at *
    have x0 := hQ.out.c0
    have x1 := hQ.out.c1
    have x2 := hQ.out.c2
    have x3 := hQ.out.c3
    have x4 := hQ.out.c4
    have x5 := hQ.out.c5
    have y0 := hP.out.c0
    have y1 := hP.out.c1
    have y2 := hP.out.c2
    have y3 := hP.out.c3
    have y4 := hP.out.c4
    have y5 := hP.out.c5
    have z0 := hP.out.fz 0
    have z1 := hP.out.fz 1
    have z2 := hP.out.fz 2
    have z3 := hP.out.fz 3
    have z4 := hP.out.fz 4
    have z5 := hP.out.fz 5
    have HF : Hid (PrimLeft w (Pm.key ⟨kind, p, q, at_, a1, c1, old, a2, c2, new⟩) (.returned (.agg #[.int .i64 kind, .string p, .string q, .int .i64 at_, .slice A7 old.length k7, .slice A8 new.length k8])) (setPrim w9 (w.heap.size + 1) ⟨kind, p, q, at_, A7, k7, old, A8, k8, new⟩)) := prim_set hB9.out (Nat.le_succ _) hP.out hS9.out rfl
    have HPS := Lib.hid (setPrim_at hP.out ⟨kind, p, q, at_, A7, k7, old, A8, k8, new⟩)
    go_wp2
    (try simp only [Exit.inBlock, Exit.then])
    refine bodyPost_ret (ret_prim rfl _ _ _ _ rfl HPS.out) rfl ?_
    exact HF.out
end Go.Proofs.YtempamboacbgiaaDoor
namespace Go.Proofs.YtempamboacbgiaaDoor
open Go.RowKit
set_option linter.unusedVariables false

/-- Its lines lie where no other row is. -/
theorem Pm.Sep.kept {x : Pm} {X Y : World} {row : Option Nat} (h : x.Sep X) (hg : X.grownBy Y row) (hne : ∀ b cur fz, X.heap[b]? = some (.cells cur 9 fz) → row ≠ some b) : x.Sep Y := by
  have s : ∀ {A : Option Addr} {ls : List (List UInt8)}, StrBlk X A ls → Strs X X.heap.size A (toBs ls) → StrBlk Y A ls ∧ Strs Y Y.heap.size A (toBs ls) := fun {A ls} hb hs => by
    refine ⟨fun hp => ?_, fun hp => ?_⟩
    · obtain ⟨b, off, cur, fz, e, h⟩ := hb hp
      exact ⟨b, off, cur, fz, e, (hg.block b (Array.getElem?_eq_some_iff.1 h).1 (fun e => hne b cur fz h e.symm)).trans h⟩
    · obtain ⟨b, off, e, hlt, hc⟩ := hs hp
      obtain ⟨b2, off2, cur, fz, e2, h⟩ := hb (by rw [toBs_len] at hp; exact hp)
      rw [e] at e2
      simp only [Option.some.injEq, Addr.mk.injEq] at e2
      obtain ⟨rfl, _, _⟩ := e2
      exact ⟨b, off, e, Nat.lt_of_lt_of_le hlt hg.size, fun j hj => World.grownBy.cell hg (hc j hj) (fun e => hne b cur fz h e.symm)⟩
  obtain ⟨ok, b1, b2⟩ := h
  obtain ⟨c1, d1⟩ := s b1 ok.h.old
  obtain ⟨c2, d2⟩ := s b2 ok.h.new
  exact ⟨⟨⟨d1, d2, ok.h.r1, ok.h.r2, ok.h.lo, ok.h.hi, ok.h.n1, ok.h.n2⟩, ok.p, ok.q, ok.lo, ok.hi⟩, c1, c2⟩
theorem OwnP.type_of {W : World} {B : Nat} {v : Value} {qs : List Pm} (h : OwnP W B v qs) {g : Nat} (e : v.ownBlock = some g) : ∃ cur fz, W.heap[g]? = some (.cells cur 24 fz) := by
  rcases h.2 with ⟨rfl, _⟩ | ⟨k, cap, cur, rfl, _, hk, _⟩
  · simp [Value.ownBlock] at e
  · obtain rfl : k = g := by simpa [Value.ownBlock] using e
    exact ⟨cur, _, hk⟩
end Go.Proofs.YtempamboacbgiaaDoor
namespace Go.Proofs.YtempamboacbgiaaDoor
open Go.RowKit
set_option linter.unusedVariables false

theorem FzK.at {k : Pk} (h : FzK k) : AtK k := ⟨⟨Nat.le_trans h.p (by decide), Nat.le_trans h.q (by decide), h.old.wide, h.new.wide⟩, h.hi⟩
theorem size_prim : (Tryd.prog.info? 24).map (·.size) = some 6 := by kernel_rfl
theorem run_slice_prims (A : Option Addr) (n cap j : Nat) (w : World) (hj : j ≤ n) (hn : n ≤ cap) (hA : A = none ∨ ∃ b off, A = some ⟨b, off, none⟩) :
    (Instr.slice 26 (.slice A n cap) none (some (.int .i64 (j : Int))) none).run Tryd.prog w = .ok (.slice A j cap) w := by
  have hb : ∀ w, (Instr.sliceBounds true n cap none (some (.int .i64 (j : Int))) none).run Tryd.prog w = .ok (0, j, cap) w := by
    intro w
    have hj2 : (j : Int) ≤ (cap : Int) := by omega
    simp [Instr.sliceBounds, Instr.sliceBound, asIntOf, go_sem, show j ≤ cap by omega] <;> intros <;> omega
  obtain ⟨d, hd, hs⟩ : ∃ d, Tryd.prog.info? 24 = some d ∧ d.size = 6 := by
    have := size_prim
    cases h : Tryd.prog.info? 24 with
    | none => rw [h] at this; cases this
    | some d => rw [h] at this; exact ⟨d, rfl, by simpa using this⟩
  have e : (if cap = 0 then A else A.map (·.add (0 * 6))) = A := by
    split
    · rfl
    · rcases hA with rfl | ⟨b, off, rfl⟩
      · rfl
      · simp [add_row]
  unfold Instr.slice
  rw [Sem.run_bind, run_underlying Tryd.underlying26, Result.andThen_ok]
  simp only []
  rw [Sem.run_bind, hb, Result.andThen_ok]
  simp [sizeOf, typeInfo, hd, Sem.run_bind]
  intro _
  rcases hA with rfl | ⟨b, off, rfl⟩
  · rfl
  · simp [add_row]
/-- Fewer of a row's steps. -/
theorem OwnP.shrink {w : World} {B : Nat} {A : Option Addr} {n c : Nat} {ps : List Pm} (h : OwnP w B (.slice A n c) ps) (k : Nat) (hk : k ≤ ps.length) : OwnP w B (.slice A k c) (ps.take k) := by
  have hl : (ps.take k).length = k := by rw [List.length_take]; omega
  have hp : pcells (ps.take k) = (pcells ps).take (k * 6) := by
    have e : pcells ps = pcells (ps.take k) ++ pcells (ps.drop k) := by rw [← pcells_app, List.take_append_drop]
    have hlen : (pcells (ps.take k)).length = k * 6 := by rw [pcells_len, hl]
    rw [e, ← hlen, List.take_left]
  unfold OwnP World.ownsRow at h ⊢
  rw [hl]
  refine ⟨by rw [pcells_len, hl], ?_⟩
  rcases h.2 with ⟨he, h0⟩ | ⟨g, cap, cur, he, hb, hg, hn, hm, hs, ht⟩
  · simp only [Value.slice.injEq] at he
    obtain ⟨rfl, rfl, rfl⟩ := he
    have : k = 0 := by omega
    subst this
    exact .inl ⟨rfl, rfl⟩
  · simp only [Value.slice.injEq] at he
    obtain ⟨rfl, rfl, rfl⟩ := he
    refine .inr ⟨g, c, cur, rfl, hb, hg, by omega, hm, hs, ?_⟩
    rw [hp, ← ht, List.take_take, Nat.min_eq_left (by omega)]
theorem OwnP.flat {w : World} {B : Nat} {A : Option Addr} {n c : Nat} {ps : List Pm} (h : OwnP w B (.slice A n c) ps) : n = ps.length ∧ n ≤ c ∧ (A = none ∨ ∃ b off, A = some ⟨b, off, none⟩) := by
  rcases h.2 with ⟨he, h0⟩ | ⟨g, cap, cur, he, _, _, hn, _, _, _⟩
  · simp only [Value.slice.injEq] at he
    obtain ⟨rfl, rfl, rfl⟩ := he
    exact ⟨h0.symm, Nat.le_refl _, .inl rfl⟩
  · simp only [Value.slice.injEq] at he
    obtain ⟨rfl, rfl, rfl⟩ := he
    exact ⟨rfl, hn, .inr ⟨g, 0, rfl⟩⟩
/-- Where a row of the call's own lies. -/
theorem OwnP.get {w : World} {B : Nat} {A : Option Addr} {n c : Nat} {ps : List Pm} (h : OwnP w B (.slice A n c) ps) {j : Nat} (hj : j < ps.length) : ∃ g, A = some ⟨g, 0, none⟩ ∧ B ≤ g ∧ g < w.heap.size ∧ w.cell? ⟨g, j * 6, none⟩ = some (.int .i64 ps[j].kind) ∧ w.cell? ⟨g, j * 6 + 1, none⟩ = some (.string ps[j].p) ∧
    w.cell? ⟨g, j * 6 + 2, none⟩ = some (.string ps[j].dst) ∧ w.cell? ⟨g, j * 6 + 3, none⟩ = some (.int .i64 ps[j].at_) ∧ w.cell? ⟨g, j * 6 + 4, none⟩ = some (.slice ps[j].a1 ps[j].old.length ps[j].c1) ∧ w.cell? ⟨g, j * 6 + 5, none⟩ = some (.slice ps[j].a2 ps[j].new.length ps[j].c2) := by
  have h' := h
  rcases h.2 with ⟨he, h0⟩ | ⟨g, cap, cur, he, hb, hg, _⟩
  · omega
  · simp only [Value.slice.injEq] at he
    obtain ⟨rfl, _, _⟩ := he
    obtain ⟨c0, c1, c2, c3, c4, c5⟩ := pcells_get ps j hj
    have e : ∀ i, (⟨g, 0, none⟩ : Addr).add i = ⟨g, i, none⟩ := fun i => by unfold Addr.add; split <;> simp_all
    have k0 := h'.cells (g := g) rfl _ _ c0
    have k1 := h'.cells (g := g) rfl _ _ c1
    have k2 := h'.cells (g := g) rfl _ _ c2
    have k3 := h'.cells (g := g) rfl _ _ c3
    have k4 := h'.cells (g := g) rfl _ _ c4
    have k5 := h'.cells (g := g) rfl _ _ c5
    rw [e] at k0 k1 k2 k3 k4 k5
    exact ⟨g, rfl, hb, (Array.getElem?_eq_some_iff.1 hg).1, k0, k1, k2, k3, k4, k5⟩
/-- What joined hands back. -/
def JoinLeft (w : World) (B : Nat) (row : Option Nat) (st : List Pk) (e : Ending) (w' : World) : Prop :=
  ∃ (A : Option Addr) (n c : Nat) (qs : List Pm), e = .returned (.slice A n c) ∧ Hid (OwnP w' B (.slice A n c) qs ∧ (∀ z ∈ qs, z.Sep w' ∧ FzK z.key) ∧ (pkeys qs).reverse = st) ∧ w.grownBy w' row
theorem push_none {y x : Pk} {st : List Pk} (h : fuseP y x = none) : pushP (y :: st) x = x :: y :: st := by rw [pushP, h]
theorem push_gone {y x : Pk} {st : List Pk} (h : fuseP y x = some []) : pushP (y :: st) x = st := by rw [pushP, h]
theorem push_one {y x z : Pk} {st : List Pk} (h : fuseP y x = some [z]) : pushP (y :: st) x = pushP st z := by rw [pushP, h]
theorem take_rev {ps : List Pm} {k : Nat} (hk : k < ps.length) : (pkeys (ps.take (k + 1))).reverse = ps[k].key :: (pkeys (ps.take k)).reverse := by
  rw [List.take_succ_eq_append_getElem hk]
  unfold pkeys
  rw [List.map_append, List.reverse_append]
  rfl

set_option maxHeartbeats 20000000 in
set_option maxRecDepth 100000 in
theorem fjoined_any (A : Option Addr) (n c B : Nat) (ps : List Pm) (x0 : Pm) (w : World) (ho : OwnP w B (.slice A n c) ps) (hB : B ≤ w.heap.size) (hs : ∀ z ∈ ps, z.Sep w ∧ FzK z.key) (xs : x0.Sep w) (xm : FzK x0.key) (hT : Tabs w) (hl : ps.length ≤ 90000) (row : Option Nat) (hrow : (Value.slice A n c).ownBlock = row) :
    Calls Tryd.prog 29 #[.slice A n c, x0.val] w (JoinLeft w B row (pushP (pkeys ps).reverse x0.key)) := by
  unfold Pm.val
  obtain ⟨hn, hnc, hA⟩ := ho.flat
  have hb0 : Below w.heap.size w (w.alloc (.cells x0.cells.toArray 24)) := (Below.refl _ _).alloc (Nat.le_refl _) _
  have e0 : (w.alloc (.cells x0.cells.toArray 24)) = (w.alloc (.cells #[.int .i64 x0.kind, .string x0.p, .string x0.dst, .int .i64 x0.at_, .slice x0.a1 x0.old.length x0.c1, .slice x0.a2 x0.new.length x0.c2] 24)) := rfl
  have hI : Hid (PrimAt (w.alloc (.cells #[.int .i64 x0.kind, .string x0.p, .string x0.dst, .int .i64 x0.at_, .slice x0.a1 x0.old.length x0.c1, .slice x0.a2 x0.new.length x0.c2] 24)) w.heap.size x0 ∧ x0.Sep (w.alloc (.cells #[.int .i64 x0.kind, .string x0.p, .string x0.dst, .int .i64 x0.at_, .slice x0.a1 x0.old.length x0.c1, .slice x0.a2 x0.new.length x0.c2] 24)) ∧ FzK x0.key ∧ Below w.heap.size w (w.alloc (.cells #[.int .i64 x0.kind, .string x0.p, .string x0.dst, .int .i64 x0.at_, .slice x0.a1 x0.old.length x0.c1, .slice x0.a2 x0.new.length x0.c2] 24)) ∧ pushP (pkeys (ps.take n)).reverse x0.key = pushP (pkeys ps).reverse x0.key) := by
    rw [e0] at hb0
    exact ⟨PrimAt.new_ w x0, xs.on hb0, xm, hb0, by rw [hn, List.take_length]⟩
  have HO := Lib.hid ho
  have HS := Lib.hid hs
  have HT := Lib.hid hT
  have HN := Lib.hid hn
  have HA := Lib.hid hA
  have HR := Lib.hid hrow
  generalize pushP (pkeys ps).reverse x0.key = st at *
  clear ho hs xs xm hT hA hrow hb0 e0 hn
  go_enter Tryd.func29, Tryd.ntmps29
  go_wp2_with fail
  go_loopw [0] (fun lv wr => ∃ (k : Nat) (x : Pm), lv = .slice A k c ∧ k ≤ n ∧ Hid (PrimAt wr w.heap.size x ∧ x.Sep wr ∧ FzK x.key ∧ Below w.heap.size w wr ∧ pushP (pkeys (ps.take k)).reverse x.key = st)) (fun lv _ => match lv with | .slice _ k _ => k | _ => 0)
  case atStart => exact ⟨n, x0, rfl, Nat.le_refl _, hI⟩
  case round =>
    obtain ⟨k1, x, rfl, hk, HI⟩ := hrel
    clear hI
    -- the end: the step is put behind those that are left
    have hend : ∀ k, k ≤ n → ∀ wz, PrimAt wz w.heap.size x → x.Sep wz → FzK x.key → Below w.heap.size w wz → x.key :: (pkeys (ps.take k)).reverse = st → ∀ g2 c2 w', OwnP w' B (.slice (some ⟨g2, 0, none⟩) (k + 1) c2) (ps.take k ++ [x]) → (wz.alloc (.cells #[.int .i64 x.kind, .string x.p, .string x.dst, .int .i64 x.at_, .slice x.a1 x.old.length x.c1, .slice x.a2 x.new.length x.c2] 24)).grownBy w' (Value.slice A k c).ownBlock → JoinLeft w B row st (.returned (.slice (some ⟨g2, 0, none⟩) (k + 1) c2)) w' := by
      intro k hk wz p1 p2 p3 p4 p5 g2 c2 w' h1 h2
      have hal : Below wz.heap.size wz (wz.alloc (.cells #[.int .i64 x.kind, .string x.p, .string x.dst, .int .i64 x.at_, .slice x.a1 x.old.length x.c1, .slice x.a2 x.new.length x.c2] 24)) := (Below.refl _ _).alloc (Nat.le_refl _) _
      have hba := p4.trans (hal.mono p4.size)
      have hown : OwnP (wz.alloc (.cells #[.int .i64 x.kind, .string x.p, .string x.dst, .int .i64 x.at_, .slice x.a1 x.old.length x.c1, .slice x.a2 x.new.length x.c2] 24)) B (.slice A n c) ps := HO.out.kept hba
      have hrow2 : (Value.slice A k c).ownBlock = row := by rw [← HR.out]; cases A <;> rfl
      have hne : ∀ b cur fz, (wz.alloc (.cells #[.int .i64 x.kind, .string x.p, .string x.dst, .int .i64 x.at_, .slice x.a1 x.old.length x.c1, .slice x.a2 x.new.length x.c2] 24)).heap[b]? = some (.cells cur 9 fz) → (Value.slice A k c).ownBlock ≠ some b := by
        intro b cur fz hb e
        obtain ⟨cur2, fz2, h3⟩ := hown.type_of (g := b) (by rw [HR.out, ← hrow2]; exact e)
        rw [hb] at h3
        simp only [Option.some.injEq, Obj.cells.injEq] at h3
        exact absurd h3.2.1 (by decide)
      refine ⟨_, _, _, _, rfl, ⟨h1, fun z hz => ?_, ?_⟩, ?_⟩
      · rcases List.mem_append.1 hz with hz | hz
        · obtain ⟨z1, z2⟩ := HS.out z (List.mem_of_mem_take hz)
          exact ⟨(z1.on hba).kept h2 hne, z2⟩
        · simp only [List.mem_cons, List.not_mem_nil, or_false] at hz
          subst hz
          exact ⟨(p2.on hal).kept h2 hne, p3⟩
      · rw [← p5]
        simp [pkeys]
      · rw [hrow2] at h2
        exact ⟨h2.os.trans hba.os, h2.tape.trans hba.tape, h2.output.trans hba.output, Nat.le_trans hba.size h2.size, fun i hi hr => (h2.block i (Nat.lt_of_lt_of_le hi hba.size) hr).trans (hba.block i hi)⟩
    have HE := Lib.hid hend
    clear hend
    rcases Nat.eq_zero_or_pos k1 with h0 | h0
    · subst h0
      obtain ⟨p1, p2, p3, p4, p5⟩ := HI.out
      have p5 : x.key :: (pkeys (ps.take 0)).reverse = st := by rw [← p5]; simp [pkeys, pushP]
      have HE := Lib.hid (HE.out 0 (Nat.zero_le _) wr p1 p2 p3 p4 p5)
      have hal : Below wr.heap.size wr (wr.alloc (.cells #[.int .i64 x.kind, .string x.p, .string x.dst, .int .i64 x.at_, .slice x.a1 x.old.length x.c1, .slice x.a2 x.new.length x.c2] 24)) := (Below.refl _ _).alloc (Nat.le_refl _) _
      have HW := Lib.hid ((HO.out.kept (p4.trans (hal.mono p4.size))).shrink 0 (Nat.zero_le _))
      have HP := Lib.hid (PrimAt.new_ wr x)
      have x0 := p1.c0
      have x1 := p1.c1
      have x2 := p1.c2
      have x3 := p1.c3
      have x4 := p1.c4
      have x5 := p1.c5
      have hsz : B ≤ wr.heap.size + 1 := by have := p4.size; omega
      clear HI p1 p2 p3 p4 p5 hal
      go_wp2_with (at_builtin; refine wpList_append_prim rfl _ _ rfl B (.slice A 0 c) (ps.take 0) rfl HW.out x wr.heap.size rfl HP.out (by rw [World.size_alloc]; exact hsz) (by simp) _ rfl ?_)
      intro g2 c2 w2 ho2 hg2 _
      have HF := Lib.hid (HE.out g2 c2 w2 ho2 hg2)
      clear ho2 hg2
      go_wp2
      go_ret
      exact HF.out
    · obtain ⟨k, rfl⟩ : ∃ k, k1 = k + 1 := ⟨k1 - 1, by omega⟩
      obtain ⟨p1, p2, p3, p4, p5⟩ := HI.out
      have hkl : k < ps.length := by have := HN.out; omega
      obtain ⟨y, hy⟩ : ∃ y, ps[k] = y := ⟨_, rfl⟩
      have hrev := take_rev hkl
      rw [hy] at hrev
      rw [hrev] at p5
      have hyk := HS.out y (by rw [← hy]; exact List.getElem_mem _)
      obtain ⟨g, hAg, hgB, hgl, c0, c1, c2, c3, c4, c5⟩ := (HO.out.kept p4).get hkl
      rw [hy] at c0 c1 c2 c3 c4 c5
      subst hAg
      have hgw : g < w.heap.size := by
        obtain ⟨g', e1, _, e2, _⟩ := HO.out.get hkl
        simp only [Option.some.injEq, Addr.mk.injEq] at e1
        rw [e1.1]; exact e2
      have CP := Lib.hid (fun W (hb : Below wr.heap.size wr W) => fPair_any y x W ((hyk.1.on (p4.trans (hb.mono p4.size))).1) ((p2.on hb).1) hyk.2.at p3.at (Tabs.on HT.out (p4.trans (hb.mono p4.size))))
      obtain ⟨op, hop⟩ : ∃ o, fuseP y.key x.key = o := ⟨_, rfl⟩
      rw [hop] at CP
      unfold Pm.val at CP
      have HDR : Hid (Below wr.heap.size wr wr.drew) := (Below.refl _ _).drew
      have HK : Hid (∀ W, Below wr.heap.size wr W → W.cell? ⟨g, k * 6, none⟩ = some (.int .i64 y.kind) ∧ W.cell? ⟨g, k * 6 + 1, none⟩ = some (.string y.p) ∧ W.cell? ⟨g, k * 6 + 2, none⟩ = some (.string y.dst) ∧ W.cell? ⟨g, k * 6 + 3, none⟩ = some (.int .i64 y.at_) ∧ W.cell? ⟨g, k * 6 + 4, none⟩ = some (.slice y.a1 y.old.length y.c1) ∧ W.cell? ⟨g, k * 6 + 5, none⟩ = some (.slice y.a2 y.new.length y.c2) ∧ W.cell? ⟨w.heap.size, 0, none⟩ = some (.int .i64 x.kind) ∧ W.cell? ⟨w.heap.size, 1, none⟩ = some (.string x.p) ∧ W.cell? ⟨w.heap.size, 2, none⟩ = some (.string x.dst) ∧ W.cell? ⟨w.heap.size, 3, none⟩ = some (.int .i64 x.at_) ∧ W.cell? ⟨w.heap.size, 4, none⟩ = some (.slice x.a1 x.old.length x.c1) ∧ W.cell? ⟨w.heap.size, 5, none⟩ = some (.slice x.a2 x.new.length x.c2)) := by
        intro W hW
        have q := p1.on hW
        exact ⟨cell_on c0 hW, cell_on c1 hW, cell_on c2 hW, cell_on c3 hW, cell_on c4 hW, cell_on c5 hW, q.c0, q.c1, q.c2, q.c3, q.c4, q.c5⟩
      have S0 := Lib.hid (HK.out _ HDR.out)
      have hk1 : (0 : Int) ≤ (k : Int) := by omega
      have hk2 : (k : Int) < ((k + 1 : Nat) : Int) := by omega
      have hk3 : IntKind.i64.wrap (((k + 1 : Nat) : Int) - 1) = (k : Int) := by
        have e : ((k + 1 : Nat) : Int) - 1 = (k : Int) := by omega
        rw [e]
        exact IntWalk.i64_in _ (by omega)
      have hk4 : (0 : Int) < ((k + 1 : Nat) : Int) := by omega
      have hsl := Lib.hid (fun W => run_slice_prims (some ⟨g, 0, none⟩) (k + 1) c k W (by omega) (by omega) (.inr ⟨g, 0, rfl⟩))
      have HPA := Lib.hid (⟨p1, p2, p3, p4, p5⟩ : PrimAt wr w.heap.size x ∧ x.Sep wr ∧ FzK x.key ∧ Below w.heap.size w wr ∧ pushP (y.key :: (pkeys (ps.take k)).reverse) x.key = st)
      have HY := Lib.hid hyk
      have hrev2 := Lib.hid hrev
      have HOP := Lib.hid hop
      clear HI p1 p2 p3 p4 p5 hrev hy hyk hop c0 c1 c2 c3 c4 c5
      have hk5 : (k : Int) < (k : Int) + 1 := by omega
      go_wp2_with fail
      go_region_held3 (fun w' => w'.cell? ⟨g, k * 6, none⟩ = some (.int .i64 y.kind) ∧ w'.cell? ⟨g, k * 6 + 1, none⟩ = some (.string y.p) ∧ w'.cell? ⟨g, k * 6 + 2, none⟩ = some (.string y.dst) ∧ w'.cell? ⟨g, k * 6 + 3, none⟩ = some (.int .i64 y.at_) ∧ w'.cell? ⟨g, k * 6 + 4, none⟩ = some (.slice y.a1 y.old.length y.c1) ∧ w'.cell? ⟨g, k * 6 + 5, none⟩ = some (.slice y.a2 y.new.length y.c2) ∧ w'.cell? ⟨w.heap.size, 0, none⟩ = some (.int .i64 x.kind) ∧ w'.cell? ⟨w.heap.size, 1, none⟩ = some (.string x.p) ∧ w'.cell? ⟨w.heap.size, 2, none⟩ = some (.string x.dst) ∧ w'.cell? ⟨w.heap.size, 3, none⟩ = some (.int .i64 x.at_) ∧ w'.cell? ⟨w.heap.size, 4, none⟩ = some (.slice x.a1 x.old.length x.c1) ∧ w'.cell? ⟨w.heap.size, 5, none⟩ = some (.slice x.a2 x.new.length x.c2)) (first
        | with_reducible exact S0.out
        | with_reducible exact S7.out
        | (go_keep; done)) (first
        | (go_at_call 7; (with_reducible refine (CP.out _ HDR.out).mono ?_); rintro e w7 ⟨A2, n2, c2, rs, rfl, hrs, hb7⟩
           have X7 := Lib.hid (HDR.out.trans (hb7.mono HDR.out.size))
           have S7 := Lib.hid (HK.out _ X7.out)))
      all_goals
        have HRS := Lib.hid hrs.out
        have hX := X7.out
        clear S0 S7 hrs hb7 CP HK HDR hk2 hk3 hk4 hk5
        obtain ⟨p1, p2, p3, p4, p5⟩ := HPA.out
        have q4 := p4.trans (hX.mono p4.size)
        have q1 := p1.on hX
        have q2 := p2.on hX
        rcases op with _ | l
        · have p6 : x.key :: (pkeys (ps.take (k + 1))).reverse = st := by rw [hrev2.out, ← p5, push_none HOP.out]
          have HE := Lib.hid (HE.out (k + 1) hk w7 q1 q2 p3 q4 p6)
          have hal : Below w7.heap.size w7 (w7.alloc (.cells #[.int .i64 x.kind, .string x.p, .string x.dst, .int .i64 x.at_, .slice x.a1 x.old.length x.c1, .slice x.a2 x.new.length x.c2] 24)) := (Below.refl _ _).alloc (Nat.le_refl _) _
          have HW := Lib.hid ((HO.out.kept (q4.trans (hal.mono q4.size))).shrink (k + 1) (by have := HN.out; omega))
          have HP := Lib.hid (PrimAt.new_ w7 x)
          have x0 := q1.c0
          have x1 := q1.c1
          have x2 := q1.c2
          have x3 := q1.c3
          have x4 := q1.c4
          have x5 := q1.c5
          have hsz : B ≤ w7.heap.size + 1 := by have := q4.size; omega
          have hlen : (ps.take (k + 1)).length ≤ 100000 := by rw [List.length_take]; omega
          have hlen2 : Hid ((ps.take (k + 1)).length = k + 1) := by show _ = _; rw [List.length_take]; have := HN.out; omega
          generalize ps.take (k + 1) = L at *
          clear HPA p1 p2 p3 p4 p5 p6 q1 q2 q4 hX X7 hal HRS
          go_wp2_with (at_builtin; refine wpList_append_prim rfl _ _ rfl B (.slice (some ⟨g, 0, none⟩) (k + 1) c) L rfl HW.out x w7.heap.size rfl HP.out (by rw [World.size_alloc]; exact hsz) hlen _ rfl ?_)
          intro g2 c2' w2 ho2 hg2 _
          rw [hlen2.out] at ho2
          rw [hlen2.out]
          have HF := Lib.hid (HE.out g2 c2' w2 ho2 hg2)
          clear ho2 hg2
          go_wp2
          go_ret
          exact HF.out
        · obtain ⟨r1, r2, r3, r4, r5⟩ := HRS.out
          replace r5 : pkeys rs = l := r5
          rcases fuse_one HOP.out with hl0 | ⟨z, hz⟩
          · subst hl0
            have hr0 : rs = [] := by
              have := congrArg List.length r5
              rw [pkeys_len] at this
              exact List.length_eq_zero_iff.1 this
            subst hr0
            replace r1 : n2 = 0 := r1
            subst r1
            have hgr : w.grownBy w7 row := ⟨q4.os, q4.tape, q4.output, q4.size, fun i hi _ => q4.block i hi⟩
            have HF : Hid (JoinLeft w B row st (.returned (.slice (some ⟨g, 0, none⟩) k c)) w7) :=
              ⟨_, _, _, ps.take k, rfl, ⟨(HO.out.kept q4).shrink k (Nat.le_of_lt hkl), fun z hz => ⟨(HS.out z (List.mem_of_mem_take hz)).1.on q4, (HS.out z (List.mem_of_mem_take hz)).2⟩, by rw [← p5, push_gone HOP.out]⟩, hgr⟩
            clear HPA p1 p2 p3 p4 p5 q1 q2 q4 hX X7 HRS r2 r3 r4 r5 hgr HOP
            have hsl := hsl.out
            go_wp2
            go_ret
            exact HF.out
          · subst hz
            obtain ⟨rz, rfl⟩ : ∃ r, rs = [r] := by
              have := congrArg List.length r5
              rw [pkeys_len] at this
              exact List.length_eq_one_iff.1 this
            replace r1 : n2 = 1 := r1
            subst r1
            have hz : rz.key = z := by simpa [pkeys] using r5
            have hzm : FzK rz.key := by rw [hz]; exact fuse_mid HY.out.2 p3 HOP.out z (by simp)
            have hzs := r4 rz (by simp)
            obtain ⟨b, off, rfl, _, d0, d1, d2, d3, d4, d5⟩ := r2.get (j := 0) (by simp)
            simp only [List.getElem_cons_zero, Nat.zero_mul, Nat.add_zero] at d0 d1 d2 d3 d4 d5
            have hg := setPrim_grown w7 w.heap.size rz
            have HN2 : Hid (PrimAt (setPrim w7 w.heap.size rz) w.heap.size rz ∧ rz.Sep (setPrim w7 w.heap.size rz) ∧ FzK rz.key ∧ Below w.heap.size w (setPrim w7 w.heap.size rz) ∧ pushP (pkeys (ps.take k)).reverse rz.key = st) :=
              ⟨setPrim_at q1 rz, hzs.grown q1 (by decide) hg, hzm, below_prim rz q4 (Nat.le_refl _) q4.size, by rw [hz, ← p5, push_one HOP.out]⟩
            have x0 := q1.c0
            have x1 := q1.c1
            have x2 := q1.c2
            have x3 := q1.c3
            have x4 := q1.c4
            have x5 := q1.c5
            have f0 := q1.fz 0
            have f1 := q1.fz 1
            have f2 := q1.fz 2
            have f3 := q1.fz 3
            have f4 := q1.fz 4
            have f5 := q1.fz 5
            clear HPA p1 p2 p3 p4 p5 q1 q2 q4 hX X7 HRS r2 r3 r4 r5 hz hzm hzs hg HOP
            have hsl := hsl.out
            go_wp2
            go_roundw
            case rel => exact ⟨k, rz, rfl, by omega, HN2.out⟩
            case measure => simp

/-- What All hands back. -/
def AllLeft (w : World) (ks : List Pk) (e : Ending) (w' : World) : Prop :=
  ∃ (A : Option Addr) (n c : Nat) (qs : List Pm), e = .returned (.slice A n c) ∧ Hid (n = qs.length ∧ Ps w' w'.heap.size A qs ∧ Room A n c ∧ (∀ z ∈ qs, z.Sep w' ∧ FzK z.key) ∧ pkeys qs = ks) ∧ Below w.heap.size w w'

set_option maxHeartbeats 8000000 in
set_option maxRecDepth 100000 in
theorem fall_any (A : Option Addr) (ps : List Pm) (cap : Nat) (w : World) (hs : Ps w w.heap.size A ps) (hm : ∀ x ∈ ps, FzK x.key) (hn : ps.length ≤ 80000) (hT : Tabs w) :
    Calls Tryd.prog 14 #[.slice A ps.length cap] w (AllLeft w (fuseAllP (pkeys ps))) := by
  have HS := Lib.hid hs
  have HM := Lib.hid hm
  have HT := Lib.hid hT
  clear hs hm hT
  go_enter Tryd.func14, Tryd.ntmps14
  go_wp2_with fail
  go_loopw [3, 8] (fun lv iv wr => ∃ (k : Nat) (A1 : Option Addr) (n1 c1 : Nat) (qs : List Pm), lv = .slice A1 n1 c1 ∧ iv = .int .i64 (k : Int) ∧ k ≤ ps.length ∧ Hid (OwnP wr w.heap.size (.slice A1 n1 c1) qs ∧ (∀ z ∈ qs, z.Sep wr ∧ FzK z.key) ∧ (pkeys qs).reverse = ((pkeys ps).take k).foldl pushP [] ∧ Below w.heap.size w wr)) (fun _ iv _ => ps.length - (intOf iv).toNat)
  case atStart => exact ⟨0, none, 0, 0, [], rfl, rfl, Nat.zero_le _, OwnP.nil _ _, (fun z h => by cases h), rfl, Below.refl _ _⟩
  case round =>
    obtain ⟨k, A1, n1, c1, qs, rfl, rfl, hk, HI⟩ := hrel
    by_cases hlt : k < ps.length
    · obtain ⟨i1, i2, i3, i4⟩ := HI.out
      have hS := HS.out.on i4
      obtain ⟨b, off, rfl, _, d0, d1, d2, d3, d4, d5⟩ := hS.get hlt
      obtain ⟨x, hx⟩ : ∃ x, ps[k] = x := ⟨_, rfl⟩
      have hok := hS.ok ps[k] (List.getElem_mem _)
      have hxm := HM.out ps[k] (List.getElem_mem _)
      rw [hx] at d0 d1 d2 d3 d4 d5 hok hxm
      have hlen : qs.length ≤ k := by
        have h1 := congrArg List.length i3
        have h2 := fold_len ((pkeys ps).take k) []
        rw [List.length_reverse, pkeys_len] at h1
        simp only [List.length_nil, List.length_take] at h2
        omega
      have hfold : ((pkeys ps).take (k + 1)).foldl pushP [] = pushP (pkeys qs).reverse x.key := by
        have hkl : k < (pkeys ps).length := by rw [pkeys_len]; exact hlt
        rw [List.take_succ_eq_append_getElem hkl, List.foldl_append, ← i3]
        simp [pkeys, hx]
      have hal : Below wr.heap.size wr (wr.alloc (.cells #[.int .i64 x.kind, .string x.p, .string x.dst, .int .i64 x.at_, .slice x.a1 x.old.length x.c1, .slice x.a2 x.new.length x.c2] 24)) := (Below.refl _ _).alloc (Nat.le_refl _) _
      have CC := Lib.hid (fcopied_any x (wr.alloc (.cells #[.int .i64 x.kind, .string x.p, .string x.dst, .int .i64 x.at_, .slice x.a1 x.old.length x.c1, .slice x.a2 x.new.length x.c2] 24)) (hok.on hal) (Nat.le_trans hxm.old.1 (by decide)) (Nat.le_trans hxm.new.1 (by decide)))
      have HAL := Lib.hid hal
      have HJ := Lib.hid (fun (y : Pm) W (hy : y.key = x.key) (ys : y.Sep W) (hb : Below wr.heap.size wr W) => fjoined_any A1 n1 c1 w.heap.size qs y W (i1.kept hb) (Nat.le_trans i4.size hb.size) (fun z hz => ⟨(i2 z hz).1.on hb, (i2 z hz).2⟩) ys (by rw [hy]; exact hxm) (Tabs.on HT.out (i4.trans (hb.mono i4.size))) (by omega) _ rfl)
      have HG : Hid (∀ W W', Below wr.heap.size wr W → W.grownBy W' (Value.slice A1 n1 c1).ownBlock → Below w.heap.size w W') := fun W W' h1 h2 => (i4.trans (h1.mono i4.size)).grown h2 (Nat.le_trans i4.size h1.size) fun j hj => ownBlock_gep i1 j hj
      have HFD := Lib.hid hfold
      unfold Pm.val at CC HJ
      clear i1 i2 i3 i4 hS hx hok hxm hlen hal hfold HI
      go_wp2_with fail
      refine CC.out.mono ?_
      rintro e w2 ⟨y, rfl, hy, hb⟩
      have HB2 := Lib.hid (HAL.out.trans (hb.mono HAL.out.size))
      have CJ := HJ.out y w2 hy.out.2 hy.out.1 HB2.out
      rw [hy.out.2] at CJ
      have CJ := Lib.hid CJ
      clear hy hb HJ CC HAL
      go_wp2_with fail
      refine CJ.out.mono ?_
      rintro e w3 ⟨A2, n2, c2, q2, rfl, hq, hg⟩
      have HR : Hid (OwnP w3 w.heap.size (.slice A2 n2 c2) q2 ∧ (∀ z ∈ q2, z.Sep w3 ∧ FzK z.key) ∧ (pkeys q2).reverse = ((pkeys ps).take (k + 1)).foldl pushP [] ∧ Below w.heap.size w w3) :=
        ⟨hq.out.1, hq.out.2.1, hq.out.2.2.trans HFD.out.symm, HG.out _ _ HB2.out hg⟩
      clear hq hg CJ HFD HG HB2 d0 d1 d2 d3 d4 d5
      go_wp2
      go_roundw
      case rel => exact ⟨k + 1, A2, n2, c2, q2, rfl, by go_num, by omega, HR.out⟩
      case measure => simp [intOf]; omega
    · obtain rfl : k = ps.length := by omega
      obtain ⟨i1, i2, i3, i4⟩ := HI.out
      obtain ⟨A2, c2, he, h1, h2⟩ := i1.ps (fun z hz => (i2 z hz).1.1)
      simp only [Value.slice.injEq] at he
      obtain ⟨rfl, rfl, rfl⟩ := he
      have HF : Hid (AllLeft w (fuseAllP (pkeys ps)) (.returned (.slice A1 qs.length c1)) wr) := ⟨_, _, _, qs, rfl, ⟨rfl, h1, h2, i2, by
        unfold fuseAllP
        rw [← pkeys_len ps, List.take_length] at i3
        rw [← i3, List.reverse_reverse]⟩, i4⟩
      clear i1 i2 i3 i4 h1 h2 HI
      go_wp2
      go_ret
      exact HF.out

end Go.Proofs.YtempamboacbgiaaDoor
