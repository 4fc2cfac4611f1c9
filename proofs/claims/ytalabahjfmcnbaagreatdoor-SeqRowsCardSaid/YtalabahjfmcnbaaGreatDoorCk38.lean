/- The reference's Rows, Front, Needs, Past of layer 10, at any place. Package seq's brought, Rows, Front, Swap, Past. What the laws of layer 10 use: the reference's Same of rows that say the same, lengths, steps in boxes. SeqRows. -/
import Derived.Laws.Cover1
import Derived.Sort.OwnSorted
import Derived.Deep.RegionHeld3
import Derived.Deep.DrawnRows
import Derived.Deep.RegionLaw
import Derived.BigQuiet
import Derived.Deep.QuietTactic
import Derived.Handy
import Derived.Test.YtalabahjfmcnbaaGreatDoorShelf
import Derived.WalkKit
import Derived.Test.YtalabahjfmcnbaaGreatDoorCk21
import Derived.Test.YtalabahjfmcnbaaGreatDoorCk31
import Derived.Test.YtalabahjfmcnbaaGreatDoorCk37
namespace Go.Proofs.YtalabahjfmcnbaaGreatDoor
open Go.RowKit
set_option linter.unusedVariables false

theorem refrows_w (A : Option Addr) (l : List Pm) (n c : Nat) (A0 : Option Addr) (m0 c0 : Nat) (l0 : List Pm) (w : World) (ha : RowW w A n c l) (hb0 : RowW w A0 m0 c0 l0) (hl : ∀ y ∈ l, LtK y.key) (hl0 : ∀ y ∈ l0, LtK y.key) (hn : l.length ≤ 500) (hn0 : l0.length ≤ 500) (hT : Tabs w) :
    Calls Tryz.prog 9 #[.slice A n c, .slice A0 m0 c0] w (RowsW w (rowsP (pkeys l) (pkeys l0))) := by
  have e := ha.len
  subst e
  exact (refrows_any A l c A0 m0 c0 l0 w w.heap.size (Nat.le_refl _) ha hb0 hl hl0 hn hn0 hT).mono fun e w' ⟨A, n, c, rs, A2, n2, c2, ss, er, h1, h2, h3⟩ =>
    ⟨A, n, c, rs, A2, n2, c2, ss, er, h1, ⟨h2.out.1.up h3.size, h2.out.2.1.up h3.size, h2.out.2.2⟩, h3⟩
theorem refpast_w (x : Pm) (A : Option Addr) (l : List Pm) (n c : Nat) (w : World) (ox : x.Ok w w.heap.size) (lx : LtK x.key) (ha : RowW w A n c l) (hl : ∀ y ∈ l, LtK y.key) (hn : l.length ≤ 500) (hT : Tabs w) :
    Calls Tryz.prog 14 #[x.val, .slice A n c] w (PastW w (pastP x.key (pkeys l))) := by
  have e := ha.len
  subst e
  exact (refpast_any x A l c w w.heap.size (Nat.le_refl _) ox lx ha.at_ ha.ok hl (by omega) hT).mono fun e w' ⟨A, n, c, rs, z, er, h1, h2, h3⟩ =>
    ⟨A, n, c, rs, z, er, h1, ⟨⟨h2.out.1, h2.out.2.1, h2.out.2.2.1, fun r hr => (h2.out.2.2.2.1 r hr).more h3.size⟩, h2.out.2.2.2.2.1.more h3.size, h2.out.2.2.2.2.2⟩, h3⟩
theorem frontw {w : World} {res : Int × List Pk} {e : Ending} {w' : World} (h : FrontB w w.heap.size res e w') : FrontW w res e w' := by
  obtain ⟨A, n, c, rs, er, h1, h2, h3⟩ := h
  exact ⟨A, n, c, rs, er, h1, ⟨h2.out.1.up h3.size, h2.out.2⟩, h3⟩
theorem reffront_w (A : Option Addr) (l : List Pm) (n c : Nat) (i : Int) (w : World) (ha : RowW w A n c l) (hl : ∀ y ∈ l, LtK y.key) (hn : l.length ≤ 500) (hT : Tabs w) :
    Calls Tryz.prog 11 #[.slice A n c, .int .i64 i] w (FrontW w (frontI (pkeys l) i)) := by
  have e := ha.len
  subst e
  by_cases h : i < 0 ∨ (l.length : Int) ≤ i
  · rw [front_o (by rw [pkeys_len]; exact h)]
    exact (front_out w w.heap.size l A c i h).mono fun e w' h => frontw h
  · obtain ⟨k, rfl⟩ : ∃ k : Nat, i = (k : Int) := ⟨i.toNat, by omega⟩
    have hk : k < l.length := by omega
    rw [front_i (by rw [pkeys_len]; exact hk)]
    exact (reffront_any A l c k w w.heap.size (Nat.le_refl _) ha hl hn hk hT).mono fun e w' h => frontw h
end Go.Proofs.YtalabahjfmcnbaaGreatDoor
namespace Go.Proofs.YtalabahjfmcnbaaGreatDoor
open Go.RowKit
set_option linter.unusedVariables false

set_option maxHeartbeats 20000000 in
set_option maxRecDepth 100000 in
theorem seqpast_any (x : Pm) (A : Option Addr) (l : List Pm) (n c : Nat) (w : World) (ox : x.Ok w w.heap.size) (lx : LtK x.key) (ha : RowW w A n c l) (hl : ∀ y ∈ l, LtK y.key) (hn : l.length ≤ 500) (hT : Tabs w) :
    Calls Tryz.prog 13 #[x.val, .slice A n c] w (PastW w (pastP x.key (pkeys l))) := by
  obtain ⟨hal, hpx, hpz⟩ := box2 w x ⟨0, ⟨#[]⟩, ⟨#[]⟩, 0, none, 0, [], none, 0, []⟩
  obtain ⟨er, ox1, oq, hpast⟩ : ∃ er ox oq, pastP x.key (pkeys l) = (er, ox, oq) := ⟨_, _, _, rfl⟩
  have hrows := rows_one x.key (pkeys l)
  rw [hpast] at hrows ⊢
  simp only at hrows
  have e0 : ((w.alloc (.cells x.cells.toArray 33)).alloc (.cells (Pm.cells ⟨0, ⟨#[]⟩, ⟨#[]⟩, 0, none, 0, [], none, 0, []⟩).toArray 33)) = ((w.alloc (.cells #[.int .i64 x.kind, .string x.p, .string x.dst, .int .i64 x.at_, .slice x.a1 x.old.length x.c1, .slice x.a2 x.new.length x.c2] 33)).alloc (.cells #[.int .i64 0, .string ⟨#[]⟩, .string ⟨#[]⟩, .int .i64 0, .slice none 0 0, .slice none 0 0] 33)) := rfl
  rw [e0] at hal hpx hpz
  have HRW := Lib.hid hrows
  have HPX := Lib.hid hpx
  have HPZ := Lib.hid hpz
  have HA := Lib.hid hal
  have HOX := Lib.hid (ox.on hal)
  have HRA := Lib.hid (ha.on hal)
  have HT := Lib.hid (Tabs.on hT hal)
  have HL := Lib.hid hl
  have HER : Hid (er ≠ 0 → ox1 = [] ∧ oq = zeroP) := fun h => by
    have hc := cons_nil x.key (pkeys l)
    rw [hpast] at hc
    unfold consP at hc
    simp only [if_pos h, Prod.mk.injEq, true_and] at hc
    exact ⟨hc.1.symm, hc.2.symm⟩
  unfold Pm.val
  clear ox ha hT hl hal hpx hpz e0 hrows
  go_enter Tryz.func13, Tryz.ntmps13
  go_upto_region 1 with (fail)
  generalize ((w.alloc (.cells #[.int .i64 x.kind, .string x.p, .string x.dst, .int .i64 x.at_, .slice x.a1 x.old.length x.c1, .slice x.a2 x.new.length x.c2] 33)).alloc (.cells #[.int .i64 0, .string ⟨#[]⟩, .string ⟨#[]⟩, .int .i64 0, .slice none 0 0, .slice none 0 0] 33)) = wa at *
  have x0 := HPX.out.c0
  have x1 := HPX.out.c1
  have x2 := HPX.out.c2
  have x3 := HPX.out.c3
  have x4 := HPX.out.c4
  have x5 := HPX.out.c5
  have hal : Below wa.heap.size wa (wa.alloc (.cells #[.int .i64 x.kind, .string x.p, .string x.dst, .int .i64 x.at_, .slice x.a1 x.old.length x.c1, .slice x.a2 x.new.length x.c2] 33)) := (Below.refl _ _).alloc (Nat.le_refl _) _
  have hro : RowW (wa.alloc (.cells #[.int .i64 x.kind, .string x.p, .string x.dst, .int .i64 x.at_, .slice x.a1 x.old.length x.c1, .slice x.a2 x.new.length x.c2] 33)) (some ⟨wa.heap.size, 0, none⟩) 1 1 [x] := RowB.of_own (own_onep wa wa.heap.size x (Nat.le_refl _)) (Nat.le_refl _) (fun z hz => by
    obtain rfl : z = x := by simpa using hz
    exact HOX.out.on hal)
  have CR := Lib.hid (seqrows_c _ [x] 1 1 A n c l (wa.alloc (.cells #[.int .i64 x.kind, .string x.p, .string x.dst, .int .i64 x.at_, .slice x.a1 x.old.length x.c1, .slice x.a2 x.new.length x.c2] 33)) hro (HRA.out.on hal) (fun z hz => by
    obtain rfl : z = x := by simpa using hz
    exact lx) HL.out (by simp) hn (Tabs.on HT.out hal))
  have HAL := Lib.hid hal
  clear hal hro
  go_wp2_with fail
  refine CR.out.mono ?_
  rintro e w1 ⟨A3, n3, c3, rs, A4, n4, c4, ss, er2, rfl, hp, hb⟩
  obtain ⟨hr3, hs3, hr4, hs4, heq⟩ := hp.out
  rw [show pkeys [x] = [x.key] from rfl, HRW.out] at heq
  have hbase : w.heap.size + 1 < (wa.alloc (.cells #[.int .i64 x.kind, .string x.p, .string x.dst, .int .i64 x.at_, .slice x.a1 x.old.length x.c1, .slice x.a2 x.new.length x.c2] 33)).heap.size := Nat.lt_of_lt_of_le HPZ.out.lt HAL.out.size
  have hbw : Below wa.heap.size wa w1 := HAL.out.trans (hb.mono HAL.out.size)
  have HB := Lib.hid (HA.out.trans (hbw.mono HA.out.size))
  have HP1 : Hid (PrimAt w1 (w.heap.size + 1) ⟨0, ⟨#[]⟩, ⟨#[]⟩, 0, none, 0, [], none, 0, []⟩) := HPZ.out.on hbw
  have HR3 : Hid (OwnP w1 (w.heap.size + 1 + 1) (.slice A3 n3 c3) rs ∧ ∀ z ∈ rs, z.Sep w1) := ⟨hr3.lower1 hbase, hs3⟩
  have HR4 : Hid (OwnP w1 (w.heap.size + 1 + 1) (.slice A4 n4 c4) ss ∧ ∀ z ∈ ss, z.Sep w1) := ⟨hr4.lower1 hbase, hs4⟩
  have HEQ := Lib.hid heq
  clear hp hb hr3 hr4 hs3 hs4 hbase heq CR HRW HPX HPZ HA HOX HRA HT HL HAL hbw x0 x1 x2 x3 x4 x5
  by_cases he : er = 0
  · subst he
    have heq := HEQ.out
    simp only [ne_eq, not_true_eq_false, if_false, Prod.mk.injEq] at heq
    obtain ⟨rfl, h3, h4⟩ := heq
    obtain ⟨z, rfl⟩ : ∃ z, ss = [z] := by
      have := congrArg List.length h4
      rw [pkeys_len] at this
      exact List.length_eq_one_iff.1 this.symm
    have hz : oq = z.key := by simpa [pkeys] using h4
    have hn4 : n4 = 1 := HR4.out.1.flat.1
    subst hn4
    obtain ⟨zb, rfl, hzB, hzl, d0, d1, d2, d3, d4, d5⟩ := HR4.out.1.get (j := 0) (by simp)
    simp only [List.getElem_cons_zero, Nat.zero_mul, Nat.zero_add] at d0 d1 d2 d3 d4 d5
    have HZO := Lib.hid (HR4.out.2 z (by simp))
    have HZS : Hid (w1.drew.cell? ⟨zb, 0, none⟩ = some (.int .i64 z.kind) ∧ w1.drew.cell? ⟨zb, 1, none⟩ = some (.string z.p) ∧ w1.drew.cell? ⟨zb, 2, none⟩ = some (.string z.dst) ∧ w1.drew.cell? ⟨zb, 3, none⟩ = some (.int .i64 z.at_) ∧ w1.drew.cell? ⟨zb, 4, none⟩ = some (.slice z.a1 z.old.length z.c1) ∧ w1.drew.cell? ⟨zb, 5, none⟩ = some (.slice z.a2 z.new.length z.c2)) := ⟨d0, d1, d2, d3, d4, d5⟩
    have HPG : Hid (PrimAt w1.drew (w.heap.size + 1) ⟨0, ⟨#[]⟩, ⟨#[]⟩, 0, none, 0, [], none, 0, []⟩) := HP1.out
    have hgs := setPrim_grown w1.drew (w.heap.size + 1) z
    have hdr : Below w1.heap.size w1 w1.drew := (Below.refl _ _).drew
    have hk : ∀ (r : Nat) (v : Value), w1.drew.cell? ⟨zb, r, none⟩ = some v → (setPrim w1.drew (w.heap.size + 1) z).cell? ⟨zb, r, none⟩ = some v := fun r v h => World.grownBy.cell hgs h (by simp; omega)
    have HS2 : Hid ((setPrim w1.drew (w.heap.size + 1) z).cell? ⟨zb, 0, none⟩ = some (.int .i64 z.kind) ∧ (setPrim w1.drew (w.heap.size + 1) z).cell? ⟨zb, 1, none⟩ = some (.string z.p) ∧ (setPrim w1.drew (w.heap.size + 1) z).cell? ⟨zb, 2, none⟩ = some (.string z.dst) ∧ (setPrim w1.drew (w.heap.size + 1) z).cell? ⟨zb, 3, none⟩ = some (.int .i64 z.at_) ∧ (setPrim w1.drew (w.heap.size + 1) z).cell? ⟨zb, 4, none⟩ = some (.slice z.a1 z.old.length z.c1) ∧ (setPrim w1.drew (w.heap.size + 1) z).cell? ⟨zb, 5, none⟩ = some (.slice z.a2 z.new.length z.c2)) := ⟨hk _ _ d0, hk _ _ d1, hk _ _ d2, hk _ _ d3, hk _ _ d4, hk _ _ d5⟩
    have hsep : ∀ x : Pm, x.Sep w1 → x.Sep (setPrim w1.drew (w.heap.size + 1) z) := fun x hx => (hx.on hdr).grown HPG.out (by decide) hgs
    have HF : Hid (PastW w (0, pkeys rs, z.key) (.returned (.tuple #[.slice A3 n3 c3, .agg #[.int .i64 z.kind, .string z.p, .string z.dst, .int .i64 z.at_, .slice z.a1 z.old.length z.c1, .slice z.a2 z.new.length z.c2], .int .i64 0])) (setPrim w1.drew (w.heap.size + 1) z)) := by
      have ho : OwnP (setPrim w1.drew (w.heap.size + 1) z) (w.heap.size + 1 + 1) (.slice A3 n3 c3) rs := by
        refine World.ownsRow.kept (HR3.out.1.kept hdr) hgs ?_
        cases hv : (Value.slice A3 n3 c3).ownBlock with
        | none => exact .inl rfl
        | some k =>
          refine .inr fun e => ?_
          have h1 := ownBlock_gep HR3.out.1 k hv
          simp only [Option.some.injEq] at e
          omega
      exact ⟨A3, n3, c3, rs, z, 0, rfl, ⟨RowB.of_own ho (Nat.le_refl _) fun x hx => (hsep x (HR3.out.2 x hx)).1, (hsep z HZO.out).1, rfl⟩, (HB.out.trans (hdr.mono HB.out.size)).grown hgs (Nat.le_trans HB.out.size hdr.size) fun k e => by cases e; omega⟩
    have HPS : Hid (PrimAt (setPrim w1.drew (w.heap.size + 1) z) (w.heap.size + 1) z) := setPrim_at HPG.out z
    have hz1 : oq = z.key := hz
    subst hz1
    subst h3
    clear h4 hz hgs hdr hk hsep d0 d1 d2 d3 d4 d5 HB HP1 HR3 HR4 HEQ HZO hzB hzl HER
    go_upto_region 4 with (fail)
    refine wp_region_noPanic ?_
    refine wp_region_held_drew (S := (fun w' => w'.cell? ⟨zb, 0, none⟩ = some (.int .i64 z.kind) ∧ w'.cell? ⟨zb, 1, none⟩ = some (.string z.p) ∧ w'.cell? ⟨zb, 2, none⟩ = some (.string z.dst) ∧ w'.cell? ⟨zb, 3, none⟩ = some (.int .i64 z.at_) ∧ w'.cell? ⟨zb, 4, none⟩ = some (.slice z.a1 z.old.length z.c1) ∧ w'.cell? ⟨zb, 5, none⟩ = some (.slice z.a2 z.new.length z.c2))) (by kernel_rfl) HZS.out (fun hHeld => ?_)
    refine wpAnyH_take (i := 0) (oi := { dst := some 22, op := _, type := _, pos := _, after := _, guard := _ }) (v := .slice A3 n3 c3) rfl (by kernel_rfl) (by kernel_rfl) (by kernel_rfl) (fun _ _ _ h => h) (Or.inl ⟨by rfl, fun w' hSw => ?_⟩) (by assumption) ?_
    · ((try dsimp only at hSw); go_simp)
    try simp only [Act.put, List.setIfInBounds_toArray, List.set_cons_zero, List.set_cons_succ]
    refine wpAnyH_take (i := 1) (oi := { dst := some 23, op := _, type := _, pos := _, after := _, guard := _ }) (v := .slice (some ⟨zb, 0, none⟩) 1 c4) rfl (by kernel_rfl) (by kernel_rfl) (by kernel_rfl) (fun _ _ _ h => h) (Or.inl ⟨by rfl, fun w' hSw => ?_⟩) (by assumption) ?_
    · ((try dsimp only at hSw); go_simp)
    try simp only [Act.put, List.setIfInBounds_toArray, List.set_cons_zero, List.set_cons_succ]
    refine wpAnyH_take (i := 2) (oi := { dst := some 24, op := _, type := _, pos := _, after := _, guard := _ }) (v := .pointer (some ⟨zb, 0, none⟩)) rfl (by kernel_rfl) (by kernel_rfl) (by kernel_rfl) (fun _ _ _ h => h) (Or.inl ⟨by rfl, fun w' hSw => ?_⟩) (by assumption) ?_
    · ((try dsimp only at hSw); go_simp)
    try simp only [Act.put, List.setIfInBounds_toArray, List.set_cons_zero, List.set_cons_succ]
    refine wpAnyH_take (i := 3) (oi := { dst := some 25, op := _, type := _, pos := _, after := _, guard := _ }) (v := .agg #[.int .i64 z.kind, .string z.p, .string z.dst, .int .i64 z.at_, .slice z.a1 z.old.length z.c1, .slice z.a2 z.new.length z.c2]) rfl (by kernel_rfl) (by kernel_rfl) (by kernel_rfl) (fun _ _ _ h => h) (Or.inl ⟨by rfl, fun w' hSw => ?_⟩) (by assumption) ?_
    · ((try dsimp only at hSw); go_simp)
    try simp only [Act.put, List.setIfInBounds_toArray, List.set_cons_zero, List.set_cons_succ]
    refine wpAnyH_take (i := 4) (oi := { dst := some 4, op := _, type := _, pos := _, after := _, guard := _ }) (v := .slice A3 n3 c3) rfl (by kernel_rfl) (by kernel_rfl) (by kernel_rfl) (fun _ _ _ h => h) (Or.inl ⟨by rfl, fun w' hSw => ?_⟩) (by assumption) ?_
    · ((try dsimp only at hSw); go_simp)
    try simp only [Act.put, List.setIfInBounds_toArray, List.set_cons_zero, List.set_cons_succ]
    generalize hwd : w1.drew = wd at *
    clear hwd
    refine wpAnyH_ready (rs := [5]) (by kernel_rfl) (by simp) ?_
    refine AllReadyH.cons rfl (fun K hK => ?_) AllReadyH.nil
    have m0 := HPG.out.c0
    have mf0 := HPG.out.fz 0
    have m1 := HPG.out.c1
    have mf1 := HPG.out.fz 1
    have m2 := HPG.out.c2
    have mf2 := HPG.out.fz 2
    have m3 := HPG.out.c3
    have mf3 := HPG.out.fz 3
    have m4 := HPG.out.c4
    have mf4 := HPG.out.fz 4
    have m5 := HPG.out.c5
    have mf5 := HPG.out.fz 5
    have HS2' := HS2.out
    unfold setPrim at HS2'
    go_simp
    refine hK.out _ _ HS2' (fun hHeld5 => ?_)
    clear hK K hHeld HS2' m0 mf0 m1 mf1 m2 mf2 m3 mf3 m4 mf4 m5 mf5
    try simp only [Act.put, List.setIfInBounds_toArray, List.set_cons_zero, List.set_cons_succ]
    refine wpAnyH_take (i := 6) (oi := { dst := some 6, op := _, type := _, pos := _, after := _, guard := _ }) (v := .int .i64 0) rfl (by kernel_rfl) (by kernel_rfl) (by kernel_rfl) (fun _ _ _ h => h) (Or.inl ⟨by rfl, fun w' hSw => ?_⟩) (by assumption) ?_
    · ((try dsimp only at hSw); go_simp)
    try simp only [Act.put, List.setIfInBounds_toArray, List.set_cons_zero, List.set_cons_succ]
    refine wpAnyH_done (by kernel_rfl) ?_ _
    refine NoPanic.normal ?_
    (try simp only [Exit.then])
    unfold setPrim at HPS
    go_wp2
    (try simp only [Exit.inBlock, Exit.then])
    refine bodyPost_ret (ret_past rfl _ _ _ z _ _ rfl rfl rfl HPS.out) rfl ?_
    exact HF.out
  · have heq := HEQ.out
    rw [if_pos he] at heq
    have h12 : er = er2 := (Prod.mk.inj heq).1
    clear heq
    subst h12
    have ke : (er != 0) = true := by simpa using he
    obtain ⟨h1, h2⟩ := HER.out he
    subst h1
    subst h2
    have hz := sep_zero (setPrim w1 (w.heap.size + 1) ⟨0, ⟨#[]⟩, ⟨#[]⟩, 0, none, 0, [], none, 0, []⟩)
    have HPS : Hid (PrimAt (setPrim w1 (w.heap.size + 1) ⟨0, ⟨#[]⟩, ⟨#[]⟩, 0, none, 0, [], none, 0, []⟩) (w.heap.size + 1) ⟨0, ⟨#[]⟩, ⟨#[]⟩, 0, none, 0, [], none, 0, []⟩) := setPrim_at HP1.out _
    have HF : Hid (PastW w (er, [], zeroP) (.returned (.tuple #[.slice none 0 0, .agg #[.int .i64 0, .string ⟨#[]⟩, .string ⟨#[]⟩, .int .i64 0, .slice none 0 0, .slice none 0 0], .int .i64 er])) (setPrim w1 (w.heap.size + 1) ⟨0, ⟨#[]⟩, ⟨#[]⟩, 0, none, 0, [], none, 0, []⟩)) :=
      ⟨none, 0, 0, [], ⟨0, ⟨#[]⟩, ⟨#[]⟩, 0, none, 0, [], none, 0, []⟩, er, rfl, ⟨RowW.nil _, hz.1, rfl⟩, HB.out.grown (setPrim_grown _ _ _) HB.out.size fun k e => by cases e; omega⟩
    have m0 := HP1.out.c0
    have m1 := HP1.out.c1
    have m2 := HP1.out.c2
    have m3 := HP1.out.c3
    have m4 := HP1.out.c4
    have m5 := HP1.out.c5
    have mf0 := HP1.out.fz 0
    have mf1 := HP1.out.fz 1
    have mf2 := HP1.out.fz 2
    have mf3 := HP1.out.fz 3
    have mf4 := HP1.out.fz 4
    have mf5 := HP1.out.fz 5
    clear hz HB HR3 HR4 HEQ HER he hpast lx hn
    go_upto_region 3 with (fail)
    go_wp
    (try simp only [Exit.inBlock, Exit.then])
    refine bodyPost_ret (ret_past rfl _ _ _ ⟨0, ⟨#[]⟩, ⟨#[]⟩, 0, none, 0, [], none, 0, []⟩ _ _ rfl rfl rfl HPS.out) rfl ?_
    exact HF.out
end Go.Proofs.YtalabahjfmcnbaaGreatDoor
namespace Go.Proofs.YtalabahjfmcnbaaGreatDoor
open Go.RowKit
set_option linter.unusedVariables false

/-- A step that a call hands back, put in a block of its own. -/
theorem held_new (w : World) (z : Pm) (ok : z.Ok w w.heap.size) : Below w.heap.size w (w.alloc (.cells #[.int .i64 z.kind, .string z.p, .string z.dst, .int .i64 z.at_, .slice z.a1 z.old.length z.c1, .slice z.a2 z.new.length z.c2] 33)) ∧ HeldP (w.alloc (.cells #[.int .i64 z.kind, .string z.p, .string z.dst, .int .i64 z.at_, .slice z.a1 z.old.length z.c1, .slice z.a2 z.new.length z.c2] 33)) w.heap.size z := by
  obtain ⟨b, p⟩ := box1 w z
  exact ⟨b, p, ok.on b⟩
/-- A row of one step. -/
theorem roww_one (w : World) (z : Pm) (ok : z.Ok w w.heap.size) : Below w.heap.size w (w.alloc (.cells #[.int .i64 z.kind, .string z.p, .string z.dst, .int .i64 z.at_, .slice z.a1 z.old.length z.c1, .slice z.a2 z.new.length z.c2] 33)) ∧ RowW (w.alloc (.cells #[.int .i64 z.kind, .string z.p, .string z.dst, .int .i64 z.at_, .slice z.a1 z.old.length z.c1, .slice z.a2 z.new.length z.c2] 33)) (some ⟨w.heap.size, 0, none⟩) 1 1 [z] := by
  have b := (box1 w z).1
  refine ⟨b, RowB.of_own (own_onep w w.heap.size z (Nat.le_refl _)) (Nat.le_refl _) fun y hy => ?_⟩
  obtain rfl : y = z := by simpa using hy
  exact ok.on b
end Go.Proofs.YtalabahjfmcnbaaGreatDoor
namespace Go.Proofs.YtalabahjfmcnbaaGreatDoor
open Go.RowKit
set_option linter.unusedVariables false

set_option maxHeartbeats 40000000 in
set_option maxRecDepth 100000 in
theorem seqrowslaw_any (A0 : Option Addr) (l0 : List Pm) (c0 : Nat) (A1 : Option Addr) (l1 : List Pm) (c1 : Nat) (i : Int) (w : World) (h0 : Ps w w.heap.size A0 l0) (m0 : l0.length ≤ 9223372036854775807) (r0 : Room A0 l0.length c0) (h1 : Ps w w.heap.size A1 l1) (m1 : l1.length ≤ 9223372036854775807) (r1 : Room A1 l1.length c1) (hT : Tabs w) :
    Calls Tryz.prog 3 #[.slice A0 l0.length c0, .slice A1 l1.length c1, .int .i64 i] w fun e w' => e = .returned (.bool true) ∧ Below w.heap.size w w' := by
  have C0 := light7_any A0 l0 c0 w h0 m0
  have C1 := light7_any A1 l1 c1 w h1 m1
  have HT := Lib.hid hT
  have HA : Hid (Below w.heap.size w w) := Below.refl _ _
  have H0 := Lib.hid (roww_in h0 r0)
  have H1 := Lib.hid (roww_in h1 r1)
  clear h0 r0 h1 r1 hT
  cases k0 : light7B l0
  · rw [k0] at C0
    have C0 := Lib.hid C0
    clear C1
    go_enter Tryz.func3, Tryz.ntmps3
    go_wp2_with fail
    refine C0.out.mono ?_
    rintro e wl ⟨rfl, rfl⟩
    clear C0
    go_wp2_with fail
    refine (sawake_any _ HT.out).mono ?_
    rintro e wz ⟨rfl, hb⟩
    have HB := Lib.hid (HA.out.trans (hb.mono HA.out.size))
    clear hb
    go_wp2
    go_ret
    exact ⟨rfl, HB.out⟩
  rw [k0] at C0
  have C0 := Lib.hid C0
  cases k1 : light7B l1
  · rw [k1] at C1
    have C1 := Lib.hid C1
    go_enter Tryz.func3, Tryz.ntmps3
    go_wp2_with fail
    refine C0.out.mono ?_
    rintro e wl ⟨rfl, rfl⟩
    clear C0
    go_wp2_with fail
    refine C1.out.mono ?_
    rintro e wl ⟨rfl, rfl⟩
    clear C1
    go_wp2_with fail
    refine (sawake_any _ HT.out).mono ?_
    rintro e wz ⟨rfl, hb⟩
    have HB := Lib.hid (HA.out.trans (hb.mono HA.out.size))
    clear hb
    go_wp2
    go_ret
    exact ⟨rfl, HB.out⟩
  rw [k1] at C1
  have C1 := Lib.hid C1
  have L0 := Lib.hid (light7_lt k0)
  have L1 := Lib.hid (light7_lt k1)
  clear k0 k1
  by_cases n0 : 12 < l0.length
  · have g0 : (12 : Int) < (l0.length : Int) := by omega
    have g1 : (l0.length : Int) > 12 := by omega
    go_enter Tryz.func3, Tryz.ntmps3
    go_wp2_with fail
    refine C0.out.mono ?_
    rintro e wl ⟨rfl, rfl⟩
    clear C0
    go_wp2_with fail
    refine C1.out.mono ?_
    rintro e wl ⟨rfl, rfl⟩
    clear C1
    go_wp2_with fail
    refine (sawake_any _ HT.out).mono ?_
    rintro e wz ⟨rfl, hb⟩
    have HB := Lib.hid (HA.out.trans (hb.mono HA.out.size))
    clear hb
    go_wp2
    go_ret
    exact ⟨rfl, HB.out⟩
  by_cases n1 : 12 < l1.length
  · have g0 : ¬ (12 : Int) < (l0.length : Int) := by omega
    have g1 : ¬ (l0.length : Int) > 12 := by omega
    have g2 : (12 : Int) < (l1.length : Int) := by omega
    have g3 : (l1.length : Int) > 12 := by omega
    go_enter Tryz.func3, Tryz.ntmps3
    go_wp2_with fail
    refine C0.out.mono ?_
    rintro e wl ⟨rfl, rfl⟩
    clear C0
    go_wp2_with fail
    refine C1.out.mono ?_
    rintro e wl ⟨rfl, rfl⟩
    clear C1
    go_wp2_with fail
    refine (sawake_any _ HT.out).mono ?_
    rintro e wz ⟨rfl, hb⟩
    have HB := Lib.hid (HA.out.trans (hb.mono HA.out.size))
    clear hb
    go_wp2
    go_ret
    exact ⟨rfl, HB.out⟩
  have g0 : ¬ (12 : Int) < (l0.length : Int) := by omega
  have g1 : ¬ (l0.length : Int) > 12 := by omega
  have g2 : ¬ (12 : Int) < (l1.length : Int) := by omega
  have g3 : ¬ (l1.length : Int) > 12 := by omega
  have hn0 : l0.length ≤ 12 := by omega
  have hn1 : l1.length ≤ 12 := by omega
  have HN : Hid (l0.length ≤ 12 ∧ l1.length ≤ 12) := ⟨hn0, hn1⟩
  clear m0 m1 n0 n1
  go_enter Tryz.func3, Tryz.ntmps3
  go_wp2_with fail
  refine C0.out.mono ?_
  rintro e wl ⟨rfl, rfl⟩
  clear C0
  go_wp2_with fail
  refine C1.out.mono ?_
  rintro e wl ⟨rfl, rfl⟩
  clear C1
  go_wp2_with fail
  clear g0 g1 g2 g3
  refine (seqrows_any A0 l0 _ c0 A1 _ c1 l1 _ H0.out H1.out L0.out L1.out (by omega) (by omega) HT.out).mono ?_
  rintro e w1 ⟨A3, n3, c3, l3, A4, n4, c4, l4, er1, rfl, hr, hb⟩
  replace H0 := Lib.hid (H0.out.on hb)
  replace H1 := Lib.hid (H1.out.on hb)
  replace HA := Lib.hid (HA.out.trans (hb.mono HA.out.size))
  replace HT := Lib.hid (Tabs.on HT.out hb)
  have H3 := Lib.hid hr.out.1
  have H4 := Lib.hid hr.out.2.1
  have E1 := Lib.hid hr.out.2.2
  clear hr hb
  go_wp2_with fail
  refine (refrows_w A0 l0 _ c0 A1 _ c1 l1 _ H0.out H1.out L0.out L1.out (by omega) (by omega) HT.out).mono ?_
  rintro e w2 ⟨A5, n5, c5, l5, A6, n6, c6, l6, er2, rfl, hr, hb⟩
  replace H0 := Lib.hid (H0.out.on hb)
  replace H1 := Lib.hid (H1.out.on hb)
  replace H3 := Lib.hid (H3.out.on hb)
  replace H4 := Lib.hid (H4.out.on hb)
  replace HA := Lib.hid (HA.out.trans (hb.mono HA.out.size))
  replace HT := Lib.hid (Tabs.on HT.out hb)
  have H5 := Lib.hid hr.out.1
  have H6 := Lib.hid hr.out.2.1
  have e12 := E1.out.symm.trans hr.out.2.2
  simp only [Prod.mk.injEq] at e12
  obtain ⟨rfl, e35, e46⟩ := e12
  have K35 := Lib.hid e35
  have K46 := Lib.hid e46
  have hlt := rows_lt _ (ltk_row L0.out) (ltk_row L1.out) E1.out
  have L3 := Lib.hid (ltk_keys rfl hlt.1)
  have L4 := Lib.hid (ltk_keys rfl hlt.2.1)
  have N3 : Hid (l3.length ≤ 12 ∧ l4.length ≤ 12) := by
    have q1 := hlt.2.2.1
    have q2 := hlt.2.2.2
    rw [pkeys_len, pkeys_len] at q1 q2
    exact ⟨by omega, by omega⟩
  clear hr hb e35 e46 hlt E1
  go_wp2_with fail
  refine (seqfront_any A0 l0 _ c0 i _ H0.out L0.out (by omega) HT.out).mono ?_
  rintro e w3 ⟨A7, n7, c7, l7, er3, rfl, hr, hb⟩
  replace H0 := Lib.hid (H0.out.on hb)
  replace H1 := Lib.hid (H1.out.on hb)
  replace H3 := Lib.hid (H3.out.on hb)
  replace H4 := Lib.hid (H4.out.on hb)
  replace H5 := Lib.hid (H5.out.on hb)
  replace H6 := Lib.hid (H6.out.on hb)
  replace HA := Lib.hid (HA.out.trans (hb.mono HA.out.size))
  replace HT := Lib.hid (Tabs.on HT.out hb)
  have H7 := Lib.hid hr.out.1
  have E3 := Lib.hid hr.out.2
  clear hr hb
  go_wp2_with fail
  refine (reffront_w A0 l0 _ c0 i _ H0.out L0.out (by omega) HT.out).mono ?_
  rintro e w4 ⟨A8, n8, c8, l8, er4, rfl, hr, hb⟩
  replace H0 := Lib.hid (H0.out.on hb)
  replace H1 := Lib.hid (H1.out.on hb)
  replace H3 := Lib.hid (H3.out.on hb)
  replace H4 := Lib.hid (H4.out.on hb)
  replace H5 := Lib.hid (H5.out.on hb)
  replace H6 := Lib.hid (H6.out.on hb)
  replace H7 := Lib.hid (H7.out.on hb)
  replace HA := Lib.hid (HA.out.trans (hb.mono HA.out.size))
  replace HT := Lib.hid (Tabs.on HT.out hb)
  have H8 := Lib.hid hr.out.1
  have e12 := E3.out.symm.trans hr.out.2
  simp only [Prod.mk.injEq] at e12
  obtain ⟨rfl, e78⟩ := e12
  have K78 := Lib.hid e78
  have hlt := front_lt (ltk_row L0.out) E3.out
  have L7 := Lib.hid (ltk_keys rfl hlt.1)
  have N7 : Hid (l7.length ≤ 12) := by
    have q1 := hlt.2
    rw [pkeys_len, pkeys_len] at q1
    show _ ≤ _
    omega
  clear hr hb e78 hlt E3
  go_wp2_with fail
  refine (refsame_w A3 A5 l3 l5 _ _ _ _ _ H3.out H5.out K35.out L3.out (Nat.le_trans N3.out.1 (by decide))).mono ?_
  rintro e w5 ⟨rfl, hb⟩
  clear H3 H5 K35 L3
  replace H0 := Lib.hid (H0.out.on hb)
  replace H1 := Lib.hid (H1.out.on hb)
  replace H4 := Lib.hid (H4.out.on hb)
  replace H6 := Lib.hid (H6.out.on hb)
  replace H7 := Lib.hid (H7.out.on hb)
  replace H8 := Lib.hid (H8.out.on hb)
  replace HA := Lib.hid (HA.out.trans (hb.mono HA.out.size))
  replace HT := Lib.hid (Tabs.on HT.out hb)
  clear hb
  go_wp2_with fail
  refine (refsame_w A4 A6 l4 l6 _ _ _ _ _ H4.out H6.out K46.out L4.out (Nat.le_trans N3.out.2 (by decide))).mono ?_
  rintro e w6 ⟨rfl, hb⟩
  clear H4 H6 K46 L4
  replace H0 := Lib.hid (H0.out.on hb)
  replace H1 := Lib.hid (H1.out.on hb)
  replace H7 := Lib.hid (H7.out.on hb)
  replace H8 := Lib.hid (H8.out.on hb)
  replace HA := Lib.hid (HA.out.trans (hb.mono HA.out.size))
  replace HT := Lib.hid (Tabs.on HT.out hb)
  clear hb
  go_wp2_with fail
  refine (refsame_w A7 A8 l7 l8 _ _ _ _ _ H7.out H8.out K78.out L7.out (Nat.le_trans N7.out (by decide))).mono ?_
  rintro e w7 ⟨rfl, hb⟩
  clear H7 H8 K78 L7
  replace H0 := Lib.hid (H0.out.on hb)
  replace H1 := Lib.hid (H1.out.on hb)
  replace HA := Lib.hid (HA.out.trans (hb.mono HA.out.size))
  replace HT := Lib.hid (Tabs.on HT.out hb)
  clear hb
  clear N3 N7
  by_cases z0 : l0.length = 0
  · have z1 : (l0.length : Int) = 0 := by omega
    have z2 : ((l0.length : Int) == 0) = true := by simp [z0]
    clear H0 H1
    go_wp2_with fail
    refine (sawake_any _ HT.out).mono ?_
    rintro e wz ⟨rfl, hb⟩
    have HB := Lib.hid (HA.out.trans (hb.mono HA.out.size))
    clear hb
    go_wp2
    go_ret
    exact ⟨rfl, HB.out⟩
  have z1 : ¬ (l0.length : Int) = 0 := by omega
  have z2 : ((l0.length : Int) == 0) = false := by simpa using z1
  have z3 : 0 < l0.length := by omega
  have z4 : (0 : Int) < (l0.length : Int) := by omega
  obtain ⟨b, off, rfl, _, d0, d1, d2, d3, d4, d5⟩ := H0.out.at_.get z3
  simp only [Nat.zero_mul, Nat.add_zero] at d0 d1 d2 d3 d4 d5
  obtain ⟨x, hx⟩ : ∃ x, l0[0] = x := ⟨_, rfl⟩
  have LX : Hid (LtK x.key) := by rw [← hx]; exact L0.out _ (List.getElem_mem _)
  have OX : Hid (x.Ok w7 w7.heap.size) := by rw [← hx]; exact H0.out.ok _ (List.getElem_mem _)
  have XC : Hid (∀ W, Below w7.heap.size w7 W → W.cell? ⟨b, off, none⟩ = some (.int .i64 x.kind) ∧ W.cell? ⟨b, off + 1, none⟩ = some (.string x.p) ∧ W.cell? ⟨b, off + 2, none⟩ = some (.string x.dst) ∧ W.cell? ⟨b, off + 3, none⟩ = some (.int .i64 x.at_) ∧ W.cell? ⟨b, off + 4, none⟩ = some (.slice x.a1 x.old.length x.c1) ∧ W.cell? ⟨b, off + 5, none⟩ = some (.slice x.a2 x.new.length x.c2)) := by
    rw [hx] at d0 d1 d2 d3 d4 d5
    exact fun W hW => ⟨cell_on d0 hW, cell_on d1 hW, cell_on d2 hW, cell_on d3 hW, cell_on d4 hW, cell_on d5 hW⟩
  have H7 : Hid (Below w7.heap.size w7 w7) := Below.refl _ _
  clear d0 d1 d2 d3 d4 d5 hx H0
  obtain ⟨d0, d1, d2, d3, d4, d5⟩ := XC.out _ H7.out
  go_wp2_with fail
  clear d0 d1 d2 d3 d4 d5
  refine (seqpast_any x A1 l1 _ c1 _ OX.out LX.out H1.out L1.out (by omega) HT.out).mono ?_
  rintro e w8 ⟨A9, n9, c9, l9, y, er5, rfl, hr, hb⟩
  obtain ⟨hbn, hy⟩ := held_new w8 y hr.out.2.1
  have hbl := hb.trans (hbn.mono hb.size)
  have h9 := hr.out.1.on hbn
  have E5 := Lib.hid hr.out.2.2
  replace H1 := Lib.hid (H1.out.on hbl)
  replace HA := Lib.hid (HA.out.trans (hbl.mono HA.out.size))
  replace HT := Lib.hid (Tabs.on HT.out hbl)
  replace OX := Lib.hid (OX.out.on hbl)
  have H9 := Lib.hid h9
  have HY := Lib.hid hy
  have hbk := H7.out.trans (hbl.mono H7.out.size)
  replace H7 := Lib.hid hbk
  obtain ⟨d0, d1, d2, d3, d4, d5⟩ := XC.out _ hbk
  clear hr hb hbn hy hbl h9 hbk
  go_wp2_with fail
  clear d0 d1 d2 d3 d4 d5
  generalize hg1 : w8.heap.size = g1 at *
  generalize (w8.alloc (.cells #[.int .i64 y.kind, .string y.p, .string y.dst, .int .i64 y.at_, .slice y.a1 y.old.length y.c1, .slice y.a2 y.new.length y.c2] 33)) = wk8 at *
  clear hg1
  refine (refpast_w x A1 l1 _ c1 _ OX.out LX.out H1.out L1.out (by omega) HT.out).mono ?_
  rintro e w9 ⟨A10, n10, c10, l10, y2, er6, rfl, hr, hb⟩
  obtain ⟨hbn, hy⟩ := held_new w9 y2 hr.out.2.1
  have hbl := hb.trans (hbn.mono hb.size)
  have h10 := hr.out.1.on hbn
  have e12 := E5.out.symm.trans hr.out.2.2
  simp only [Prod.mk.injEq] at e12
  obtain ⟨rfl, e9, ey⟩ := e12
  have K9 := Lib.hid e9
  have KY := Lib.hid ey
  have hlt := past_lt _ LX.out (ltk_row L1.out) E5.out
  have LY := Lib.hid hlt.1
  have L9 := Lib.hid (ltk_keys rfl hlt.2.1)
  have N9 : Hid (l9.length ≤ 12) := by
    have q1 := hlt.2.2.1
    rw [pkeys_len, pkeys_len] at q1
    show _ ≤ _
    omega
  replace H9 := Lib.hid (H9.out.on hbl)
  replace HY := Lib.hid (HY.out.on hbl)
  replace HA := Lib.hid (HA.out.trans (hbl.mono HA.out.size))
  replace HT := Lib.hid (Tabs.on HT.out hbl)
  have H10 := Lib.hid h10
  have HZ := Lib.hid hy
  clear hr hb hbn hy hbl h10 e9 ey hlt E5 XC H7 OX LX H1 L1 L0
  go_wp2_with fail
  generalize hg2 : w9.heap.size = g2 at *
  generalize (w9.alloc (.cells #[.int .i64 y2.kind, .string y2.p, .string y2.dst, .int .i64 y2.at_, .slice y2.a1 y2.old.length y2.c1, .slice y2.a2 y2.new.length y2.c2] 33)) = wk9 at *
  clear hg2
  refine (sawake_any _ HT.out).mono ?_
  rintro e w10 ⟨rfl, hb⟩
  replace H9 := Lib.hid (H9.out.on hb)
  replace HY := Lib.hid (HY.out.on hb)
  replace H10 := Lib.hid (H10.out.on hb)
  replace HZ := Lib.hid (HZ.out.on hb)
  replace HA := Lib.hid (HA.out.trans (hb.mono HA.out.size))
  replace HT := Lib.hid (Tabs.on HT.out hb)
  clear hb
  go_wp2_with fail
  refine (refsame_w A9 A10 l9 l10 _ _ _ _ _ H9.out H10.out K9.out L9.out (Nat.le_trans N9.out (by decide))).mono ?_
  rintro e w11 ⟨rfl, hb⟩
  replace HY := Lib.hid (HY.out.on hb)
  replace HZ := Lib.hid (HZ.out.on hb)
  replace HA := Lib.hid (HA.out.trans (hb.mono HA.out.size))
  replace HT := Lib.hid (Tabs.on HT.out hb)
  clear hb H9 H10 K9 L9 N9
  have yc0 := HY.out.1.c0
  have yc1 := HY.out.1.c1
  have yc2 := HY.out.1.c2
  have yc3 := HY.out.1.c3
  have yc4 := HY.out.1.c4
  have yc5 := HY.out.1.c5
  obtain ⟨b1, q1⟩ := roww_one w11 y HY.out.2
  have HZ1 := HZ.out.on b1
  have zc0 := HZ1.1.c0
  have zc1 := HZ1.1.c1
  have zc2 := HZ1.1.c2
  have zc3 := HZ1.1.c3
  have zc4 := HZ1.1.c4
  have zc5 := HZ1.1.c5
  obtain ⟨b2, q2⟩ := roww_one (w11.alloc (.cells #[.int .i64 y.kind, .string y.p, .string y.dst, .int .i64 y.at_, .slice y.a1 y.old.length y.c1, .slice y.a2 y.new.length y.c2] 33)) y2 (HZ.out.2.on b1)
  have z1' : (w11.alloc (.cells #[.int .i64 y.kind, .string y.p, .string y.dst, .int .i64 y.at_, .slice y.a1 y.old.length y.c1, .slice y.a2 y.new.length y.c2] 33)).heap.size = w11.heap.size + 1 := World.size_alloc _ _
  rw [z1'] at q2
  have CS := Lib.hid (refsame_w _ _ [y] [y2] 1 1 1 1 _ (q1.on b2) q2 (by simp [pkeys, KY.out]) (fun v hv => by
    obtain rfl : v = y := by simpa using hv
    exact LY.out) (by simp))
  have HB := Lib.hid (HA.out.trans ((b1.trans (b2.mono b1.size)).mono HA.out.size))
  clear b1 b2 q1 q2 z1' HZ1
  go_wp2_with fail
  refine CS.out.mono ?_
  rintro e wz ⟨rfl, hb⟩
  have HC := Lib.hid (HB.out.trans (hb.mono HB.out.size))
  clear hb CS HB
  go_wp2
  go_ret
  exact ⟨rfl, HC.out⟩
end Go.Proofs.YtalabahjfmcnbaaGreatDoor
