/- The reference's Past of layer 10. -/
import Derived.Laws.Cover1
import Derived.Sort.OwnSorted
import Derived.Deep.RegionHeld3
import Derived.Deep.DrawnRows
import Derived.Deep.RegionLaw
import Derived.BigQuiet
import Derived.Deep.QuietTactic
import Derived.Handy
import Derived.Test.YtalabahjfmcnbaaGreatDoorShelf
import Derived.WalkKit
import Derived.Deep.Cut
import Derived.Deep.CutRange
import Derived.Test.YtalabahjfmcnbaaGreatDoorCk14
import Derived.Test.YtalabahjfmcnbaaGreatDoorCk28
namespace Go.Proofs.YtalabahjfmcnbaaGreatDoor
open Go.RowKit
set_option linter.unusedVariables false

/-- What Past hands back. -/
def PastB (w : World) (B : Nat) (res : Int × List Pk × Pk) (e : Ending) (w' : World) : Prop :=
  ∃ (A : Option Addr) (n c : Nat) (rs : List Pm) (z : Pm) (er : Int), e = .returned (.tuple #[.slice A n c, .agg #[.int .i64 z.kind, .string z.p, .string z.dst, .int .i64 z.at_, .slice z.a1 z.old.length z.c1, .slice z.a2 z.new.length z.c2], .int .i64 er]) ∧ Hid (n = rs.length ∧ Ps w' w'.heap.size A rs ∧ Room A n c ∧ (∀ r ∈ rs, r.Ok w' B) ∧ z.Ok w' B ∧ res = (er, pkeys rs, z.key)) ∧ Below w.heap.size w w'
set_option maxHeartbeats 40000000 in
set_option maxRecDepth 100000 in
theorem refpast_any (x0 : Pm) (A : Option Addr) (l : List Pm) (lc : Nat) (w : World) (B : Nat) (hB : B ≤ w.heap.size) (ox : x0.Ok w B) (lx : LtK x0.key) (hs : Ps w w.heap.size A l) (hok : ∀ y ∈ l, y.Ok w B) (hl : ∀ y ∈ l, LtK y.key) (hn : l.length ≤ 1000) (hT : Tabs w) :
    Calls Tryz.prog 14 #[x0.val, .slice A l.length lc] w (PastB w B (pastP x0.key (pkeys l))) := by
  have HBW : Hid (B ≤ w.heap.size) := hB
  have HS := Lib.hid hs
  have HOK := Lib.hid hok
  have HL := Lib.hid hl
  have HT := Lib.hid hT
  obtain ⟨R9, hR9⟩ : ∃ r, pastP x0.key (pkeys l) = r := ⟨_, rfl⟩
  obtain ⟨hal, hpx, hpz⟩ := box2 w x0 ⟨0, ⟨#[]⟩, ⟨#[]⟩, 0, none, 0, [], none, 0, []⟩
  have HI0 : Hid (∃ W0, W0 = ((w.alloc (.cells #[.int .i64 x0.kind, .string x0.p, .string x0.dst, .int .i64 x0.at_, .slice x0.a1 x0.old.length x0.c1, .slice x0.a2 x0.new.length x0.c2] 33)).alloc (.cells #[.int .i64 0, .string ⟨#[]⟩, .string ⟨#[]⟩, .int .i64 0, .slice none 0 0, .slice none 0 0] 33)) ∧ PastI w W0 B none 0 0 [] x0 ∧ consP (pkeys []) (pastP x0.key ((pkeys l).drop 0)) = R9) := by
    refine ⟨_, rfl, ⟨OwnP.nil _ _, (fun r hr => by cases hr), hpx, hpz, ox.below (hal.mono hB), lx, hal⟩, ?_⟩
    rw [List.drop_zero]
    exact (cons_nil _ _).trans hR9
  rw [hR9]
  unfold Pm.val
  clear hB ox lx hs hok hl hT hR9 hal hpx hpz
  go_enter Tryz.func14, Tryz.ntmps14
  go_wp2_with fail
  obtain ⟨W0, hW0, hP0, hC0⟩ := HI0.out
  rw [← hW0]
  have HP0 := Lib.hid hP0
  have HC0 := Lib.hid hC0
  clear HI0 hW0 hP0 hC0
  go_wp2_with fail
  go_loopw [7, 8] (fun lv iv wr => ∃ (k : Nat) (A1 : Option Addr) (n1 c1 : Nat) (rs : List Pm) (x : Pm), lv = .slice A1 n1 c1 ∧ iv = .int .i64 (k : Int) ∧ k ≤ l.length ∧ Hid (PastI w wr B A1 n1 c1 rs x) ∧ Hid (consP (pkeys rs) (pastP x.key ((pkeys l).drop k)) = R9 ∧ rs.length ≤ k)) (fun _ iv _ => l.length - (intOf iv).toNat)
  case atStart => exact ⟨0, none, 0, 0, [], x0, rfl, rfl, Nat.zero_le _, HP0.out, HC0.out, Nat.le_refl _⟩
  case round =>
    clear HP0 HC0
    obtain ⟨k, A1, n1, c1, rs, x, rfl, rfl, hk, HP, HC⟩ := hrel
    by_cases hlt : k < l.length
    · obtain ⟨lb, lo, rfl, _⟩ := HS.out.get hlt
      have hS := HS.out.on HP.out.below
      obtain ⟨lb', lo', e, _, d0, d1, d2, d3, d4, d5⟩ := hS.get hlt
      cases e
      obtain ⟨y, hy⟩ : ∃ y, l[k] = y := ⟨_, rfl⟩
      have hyB := (HOK.out l[k] (List.getElem_mem _)).below (HP.out.below.mono HBW.out)
      have hyl := HL.out l[k] (List.getElem_mem _)
      have hdr : (pkeys l).drop k = y.key :: (pkeys l).drop (k + 1) := by
        rw [List.drop_eq_getElem_cons (by rw [pkeys_len]; exact hlt)]
        simp [pkeys, ← hy]
      rw [hy] at d0 d1 d2 d3 d4 d5 hyB hyl
      have HC2 := Lib.hid HC.out
      rw [hdr] at HC2
      have CP := Lib.hid (fun W (hb : Below wr.heap.size wr W) => refpair8_any x y W B (Nat.le_trans (Nat.le_trans HBW.out HP.out.below.size) hb.size) (HP.out.xok.below (hb.mono (Nat.le_trans HBW.out HP.out.below.size))) (hyB.below (hb.mono (Nat.le_trans HBW.out HP.out.below.size))) HP.out.lt.wd hyl.wd (Tabs.on (Tabs.on HT.out HP.out.below) hb))
      have HKS : Hid (∀ W, Below wr.heap.size wr W → W.cell? ⟨w.heap.size, 0, none⟩ = some (.int .i64 x.kind) ∧ W.cell? ⟨w.heap.size, 1, none⟩ = some (.string x.p) ∧ W.cell? ⟨w.heap.size, 2, none⟩ = some (.string x.dst) ∧ W.cell? ⟨w.heap.size, 3, none⟩ = some (.int .i64 x.at_) ∧ W.cell? ⟨w.heap.size, 4, none⟩ = some (.slice x.a1 x.old.length x.c1) ∧ W.cell? ⟨w.heap.size, 5, none⟩ = some (.slice x.a2 x.new.length x.c2) ∧ W.cell? ⟨lb, lo + k * 6, none⟩ = some (.int .i64 y.kind) ∧ W.cell? ⟨lb, lo + k * 6 + 1, none⟩ = some (.string y.p) ∧ W.cell? ⟨lb, lo + k * 6 + 2, none⟩ = some (.string y.dst) ∧ W.cell? ⟨lb, lo + k * 6 + 3, none⟩ = some (.int .i64 y.at_) ∧ W.cell? ⟨lb, lo + k * 6 + 4, none⟩ = some (.slice y.a1 y.old.length y.c1) ∧ W.cell? ⟨lb, lo + k * 6 + 5, none⟩ = some (.slice y.a2 y.new.length y.c2)) := by
        intro W hW
        have q := HP.out.px.on hW
        exact ⟨q.c0, q.c1, q.c2, q.c3, q.c4, q.c5, cell_on d0 hW, cell_on d1 hW, cell_on d2 hW, cell_on d3 hW, cell_on d4 hW, cell_on d5 hW⟩
      have HDR : Hid (Below wr.heap.size wr wr.drew) := (Below.refl _ _).drew
      have u1 : (0 : Int) ≤ (k : Int) := by omega
      have u2 : (k : Int) < (l.length : Int) := by omega
      have hk64 : k ≤ 1000 := by omega
      have HLY : Hid (LtK y.key) := hyl
      have HSZ : Hid (w.heap.size + 1 < wr.heap.size) := HP.out.pz.lt
      have HBW0 := Lib.hid HBW.out
      have HBW : Hid (B ≤ wr.heap.size) := Nat.le_trans HBW.out HP.out.below.size
      unfold Pm.val at CP
      clear d0 d1 d2 d3 d4 d5 hS hyB hyl hdr hy HC
      go_upto_region 5 with (fail)
      go_cut [9, 10, 11] from 12 to 36 (fun pb pa pe wx => ∃ (gb ga : Nat) (b a : Pm) (er : Int), pb = .pointer (some ⟨gb, 0, none⟩) ∧ pa = .pointer (some ⟨ga, 0, none⟩) ∧ pe = .int .i64 er ∧ Hid (PrimAt wx gb b ∧ PrimAt wx ga a ∧ b.Ok wx B ∧ a.Ok wx B ∧ pairP x.key y.key = (er, b.key, a.key) ∧ wr.heap.size ≤ gb ∧ wr.heap.size ≤ ga ∧ Below wr.heap.size wr wx))
      case first =>
        clear HC2 HP HSZ
        refine wp_region_noPanic ?_
        refine wp_region_held_drew (S := (fun w' => w'.cell? ⟨w.heap.size, 0, none⟩ = some (.int .i64 x.kind) ∧ w'.cell? ⟨w.heap.size, 1, none⟩ = some (.string x.p) ∧ w'.cell? ⟨w.heap.size, 2, none⟩ = some (.string x.dst) ∧ w'.cell? ⟨w.heap.size, 3, none⟩ = some (.int .i64 x.at_) ∧ w'.cell? ⟨w.heap.size, 4, none⟩ = some (.slice x.a1 x.old.length x.c1) ∧ w'.cell? ⟨w.heap.size, 5, none⟩ = some (.slice x.a2 x.new.length x.c2) ∧ w'.cell? ⟨lb, lo + k * 6, none⟩ = some (.int .i64 y.kind) ∧ w'.cell? ⟨lb, lo + k * 6 + 1, none⟩ = some (.string y.p) ∧ w'.cell? ⟨lb, lo + k * 6 + 2, none⟩ = some (.string y.dst) ∧ w'.cell? ⟨lb, lo + k * 6 + 3, none⟩ = some (.int .i64 y.at_) ∧ w'.cell? ⟨lb, lo + k * 6 + 4, none⟩ = some (.slice y.a1 y.old.length y.c1) ∧ w'.cell? ⟨lb, lo + k * 6 + 5, none⟩ = some (.slice y.a2 y.new.length y.c2))) (by kernel_rfl) (HKS.out _ HDR.out) (fun hHeld => ?_)
        refine wpAnyH_take (i := 0) (oi := { dst := some 19, op := _, type := _, pos := _, after := _, guard := _ }) (v := .agg #[.int .i64 x.kind, .string x.p, .string x.dst, .int .i64 x.at_, .slice x.a1 x.old.length x.c1, .slice x.a2 x.new.length x.c2]) rfl (by kernel_rfl) (by kernel_rfl) (by kernel_rfl) (fun _ _ _ h => h) (Or.inl ⟨by rfl, fun w' hSw => ?_⟩) (by assumption) ?_
        · ((try dsimp only at hSw); go_simp)
        try simp only [Act.put, List.setIfInBounds_toArray, List.set_cons_zero, List.set_cons_succ]
        refine wpAnyH_take (i := 1) (oi := { dst := some 20, op := _, type := _, pos := _, after := _, guard := _ }) (v := .slice (some ⟨lb, lo, none⟩) l.length lc) rfl (by kernel_rfl) (by kernel_rfl) (by kernel_rfl) (fun _ _ _ h => h) (Or.inl ⟨by rfl, fun w' hSw => ?_⟩) (by assumption) ?_
        · ((try dsimp only at hSw); go_simp)
        try simp only [Act.put, List.setIfInBounds_toArray, List.set_cons_zero, List.set_cons_succ]
        refine wpAnyH_take (i := 2) (oi := { dst := some 21, op := _, type := _, pos := _, after := _, guard := _ }) (v := .int .i64 (k : Int)) rfl (by kernel_rfl) (by kernel_rfl) (by kernel_rfl) (fun _ _ _ h => h) (Or.inl ⟨by rfl, fun w' hSw => ?_⟩) (by assumption) ?_
        · ((try dsimp only at hSw); go_simp)
        try simp only [Act.put, List.setIfInBounds_toArray, List.set_cons_zero, List.set_cons_succ]
        refine wpAnyH_take (i := 3) (oi := { dst := some 22, op := _, type := _, pos := _, after := _, guard := _ }) (v := .pointer (some ⟨lb, lo + k * 6, none⟩)) rfl (by kernel_rfl) (by kernel_rfl) (by kernel_rfl) (fun _ _ _ h => h) (Or.inl ⟨by rfl, fun w' hSw => ?_⟩) (by assumption) ?_
        · ((try dsimp only at hSw); go_simp)
        try simp only [Act.put, List.setIfInBounds_toArray, List.set_cons_zero, List.set_cons_succ]
        refine wpAnyH_take (i := 4) (oi := { dst := some 23, op := _, type := _, pos := _, after := _, guard := _ }) (v := .agg #[.int .i64 y.kind, .string y.p, .string y.dst, .int .i64 y.at_, .slice y.a1 y.old.length y.c1, .slice y.a2 y.new.length y.c2]) rfl (by kernel_rfl) (by kernel_rfl) (by kernel_rfl) (fun _ _ _ h => h) (Or.inl ⟨by rfl, fun w' hSw => ?_⟩) (by assumption) ?_
        · ((try dsimp only at hSw); go_simp)
        try simp only [Act.put, List.setIfInBounds_toArray, List.set_cons_zero, List.set_cons_succ]
        have XB0 := Lib.hid HDR.out
        generalize hwD : wr.drew = wD at *
        clear hwD HDR
        refine wpAnyH_ready (rs := [5, 10, 11]) (by kernel_rfl) (by simp) ?_
        refine AllReadyH.cons rfl (fun K hK => ?_) (AllReadyH.cons rfl (fun K hK => ?_) (AllReadyH.cons rfl (fun K hK => ?_) AllReadyH.nil))
        · go_simp
          go_at_call 26
          refine (CP.out _ XB0.out).mono ?_
          rintro e wc1 ⟨b, a, er, rfl, hp, hb⟩
          have XC1 := Lib.hid (XB0.out.trans (hb.mono XB0.out.size))
          have HOb := Lib.hid hp.out.1
          have HOa := Lib.hid hp.out.2.1
          have HKP := Lib.hid hp.out.2.2
          clear hb hp
          refine hK.out _ _ (HKS.out _ XC1.out) (fun hHeld5 => ?_)
          clear hK K hHeld
          try simp only [Act.put, List.setIfInBounds_toArray, List.set_cons_zero, List.set_cons_succ]
          refine wpAnyH_take (i := 6) (oi := { dst := some 18, op := _, type := _, pos := _, after := _, guard := _ }) (v := .tuple #[.agg #[.int .i64 b.kind, .string b.p, .string b.dst, .int .i64 b.at_, .slice b.a1 b.old.length b.c1, .slice b.a2 b.new.length b.c2], .agg #[.int .i64 a.kind, .string a.p, .string a.dst, .int .i64 a.at_, .slice a.a1 a.old.length a.c1, .slice a.a2 a.new.length a.c2], .int .i64 er]) rfl (by kernel_rfl) (by kernel_rfl) (by kernel_rfl) (fun _ _ _ h => h) (Or.inl ⟨by rfl, fun w' hSw => ?_⟩) (by assumption) ?_
          · ((try dsimp only at hSw); go_simp)
          try simp only [Act.put, List.setIfInBounds_toArray, List.set_cons_zero, List.set_cons_succ]
          refine wpAnyH_take (i := 7) (oi := { dst := some 25, op := _, type := _, pos := _, after := _, guard := _ }) (v := .agg #[.int .i64 b.kind, .string b.p, .string b.dst, .int .i64 b.at_, .slice b.a1 b.old.length b.c1, .slice b.a2 b.new.length b.c2]) rfl (by kernel_rfl) (by kernel_rfl) (by kernel_rfl) (fun _ _ _ h => h) (Or.inl ⟨by rfl, fun w' hSw => ?_⟩) (by assumption) ?_
          · ((try dsimp only at hSw); go_simp)
          try simp only [Act.put, List.setIfInBounds_toArray, List.set_cons_zero, List.set_cons_succ]
          refine wpAnyH_take (i := 8) (oi := { dst := some 26, op := _, type := _, pos := _, after := _, guard := _ }) (v := .agg #[.int .i64 a.kind, .string a.p, .string a.dst, .int .i64 a.at_, .slice a.a1 a.old.length a.c1, .slice a.a2 a.new.length a.c2]) rfl (by kernel_rfl) (by kernel_rfl) (by kernel_rfl) (fun _ _ _ h => h) (Or.inl ⟨by rfl, fun w' hSw => ?_⟩) (by assumption) ?_
          · ((try dsimp only at hSw); go_simp)
          try simp only [Act.put, List.setIfInBounds_toArray, List.set_cons_zero, List.set_cons_succ]
          refine wpAnyH_take (i := 9) (oi := { dst := some 27, op := _, type := _, pos := _, after := _, guard := _ }) (v := .int .i64 er) rfl (by kernel_rfl) (by kernel_rfl) (by kernel_rfl) (fun _ _ _ h => h) (Or.inl ⟨by rfl, fun w' hSw => ?_⟩) (by assumption) ?_
          · ((try dsimp only at hSw); go_simp)
          try simp only [Act.put, List.setIfInBounds_toArray, List.set_cons_zero, List.set_cons_succ]
          refine wpAnyH_ready (rs := [10, 11]) (by kernel_rfl) (by simp) ?_
          refine AllReadyH.cons rfl (fun K hK => ?_) (AllReadyH.cons rfl (fun K hK => ?_) AllReadyH.nil)
          · have hb : Below wc1.heap.size wc1 (wc1.alloc (.cells #[.int .i64 0, .string ⟨#[]⟩, .string ⟨#[]⟩, .int .i64 0, .slice none 0 0, .slice none 0 0] 33)) := (Below.refl _ _).alloc (Nat.le_refl _) _
            have XA2 := Lib.hid (XC1.out.trans (hb.mono XC1.out.size))
            have hbB := hb.mono (Nat.le_trans HBW.out XC1.out.size)
            replace HOb := Lib.hid (HOb.out.below hbB)
            replace HOa := Lib.hid (HOa.out.below hbB)
            clear hbB
            have HGb : Hid (PrimAt (wc1.alloc (.cells #[.int .i64 0, .string ⟨#[]⟩, .string ⟨#[]⟩, .int .i64 0, .slice none 0 0, .slice none 0 0] 33)) wc1.heap.size ⟨0, ⟨#[]⟩, ⟨#[]⟩, 0, none, 0, [], none, 0, []⟩) := PrimAt.new_ wc1 ⟨0, ⟨#[]⟩, ⟨#[]⟩, 0, none, 0, [], none, 0, []⟩
            have HLb : Hid (wr.heap.size ≤ wc1.heap.size) := XC1.out.size
            clear hb
            go_simp
            refine hK.out _ _ (HKS.out _ XA2.out) (fun hHeld10 => ?_)
            clear hK K hHeld5
            try simp only [Act.put, List.setIfInBounds_toArray, List.set_cons_zero, List.set_cons_succ]
            generalize hwn : (wc1.alloc (.cells #[.int .i64 0, .string ⟨#[]⟩, .string ⟨#[]⟩, .int .i64 0, .slice none 0 0, .slice none 0 0] 33)) = wa2 at *
            clear hwn
            refine wpAnyH_ready (rs := [11]) (by kernel_rfl) (by simp) ?_
            refine AllReadyH.cons rfl (fun K hK => ?_) AllReadyH.nil
            · have HNE : Hid (wc1.heap.size ≠ wa2.heap.size) := by show _ ≠ _; have h1 := HGb.out.lt; omega
              have hb : Below wa2.heap.size wa2 (wa2.alloc (.cells #[.int .i64 0, .string ⟨#[]⟩, .string ⟨#[]⟩, .int .i64 0, .slice none 0 0, .slice none 0 0] 33)) := (Below.refl _ _).alloc (Nat.le_refl _) _
              have XA3 := Lib.hid (XA2.out.trans (hb.mono XA2.out.size))
              replace HGb := Lib.hid (HGb.out.on hb)
              have hbB := hb.mono (Nat.le_trans HBW.out XA2.out.size)
              replace HOb := Lib.hid (HOb.out.below hbB)
              replace HOa := Lib.hid (HOa.out.below hbB)
              clear hbB
              have HGa : Hid (PrimAt (wa2.alloc (.cells #[.int .i64 0, .string ⟨#[]⟩, .string ⟨#[]⟩, .int .i64 0, .slice none 0 0, .slice none 0 0] 33)) wa2.heap.size ⟨0, ⟨#[]⟩, ⟨#[]⟩, 0, none, 0, [], none, 0, []⟩) := PrimAt.new_ wa2 ⟨0, ⟨#[]⟩, ⟨#[]⟩, 0, none, 0, [], none, 0, []⟩
              have HLa : Hid (wr.heap.size ≤ wa2.heap.size) := XA2.out.size
              clear hb
              go_simp
              refine hK.out _ _ (HKS.out _ XA3.out) (fun hHeld11 => ?_)
              clear hK K hHeld10
              try simp only [Act.put, List.setIfInBounds_toArray, List.set_cons_zero, List.set_cons_succ]
              generalize hwn : (wa2.alloc (.cells #[.int .i64 0, .string ⟨#[]⟩, .string ⟨#[]⟩, .int .i64 0, .slice none 0 0, .slice none 0 0] 33)) = wa3 at *
              clear hwn
              refine wpAnyH_ready (rs := [12]) (by kernel_rfl) (by simp) ?_
              refine AllReadyH.cons rfl (fun K hK => ?_) AllReadyH.nil
              have m0 := HGb.out.c0
              have mf0 := HGb.out.fz 0
              have m1 := HGb.out.c1
              have mf1 := HGb.out.fz 1
              have m2 := HGb.out.c2
              have mf2 := HGb.out.fz 2
              have m3 := HGb.out.c3
              have mf3 := HGb.out.fz 3
              have m4 := HGb.out.c4
              have mf4 := HGb.out.fz 4
              have m5 := HGb.out.c5
              have mf5 := HGb.out.fz 5
              have g1 : wa3.grownBy ((((((wa3.setCell ⟨wc1.heap.size, 0, none⟩ (.int .i64 b.kind)).setCell ⟨wc1.heap.size, 1, none⟩ (.string b.p)).setCell ⟨wc1.heap.size, 2, none⟩ (.string b.dst)).setCell ⟨wc1.heap.size, 3, none⟩ (.int .i64 b.at_)).setCell ⟨wc1.heap.size, 4, none⟩ (.slice b.a1 b.old.length b.c1)).setCell ⟨wc1.heap.size, 5, none⟩ (.slice b.a2 b.new.length b.c2)) (some wc1.heap.size) := setPrim_grown wa3 wc1.heap.size b
              have hbs : Below wr.heap.size wr ((((((wa3.setCell ⟨wc1.heap.size, 0, none⟩ (.int .i64 b.kind)).setCell ⟨wc1.heap.size, 1, none⟩ (.string b.p)).setCell ⟨wc1.heap.size, 2, none⟩ (.string b.dst)).setCell ⟨wc1.heap.size, 3, none⟩ (.int .i64 b.at_)).setCell ⟨wc1.heap.size, 4, none⟩ (.slice b.a1 b.old.length b.c1)).setCell ⟨wc1.heap.size, 5, none⟩ (.slice b.a2 b.new.length b.c2)) := below_prim b XA3.out HLb.out XA3.out.size
              have hB1 : Below B wa3 ((((((wa3.setCell ⟨wc1.heap.size, 0, none⟩ (.int .i64 b.kind)).setCell ⟨wc1.heap.size, 1, none⟩ (.string b.p)).setCell ⟨wc1.heap.size, 2, none⟩ (.string b.dst)).setCell ⟨wc1.heap.size, 3, none⟩ (.int .i64 b.at_)).setCell ⟨wc1.heap.size, 4, none⟩ (.slice b.a1 b.old.length b.c1)).setCell ⟨wc1.heap.size, 5, none⟩ (.slice b.a2 b.new.length b.c2)) := below_prim b (Below.refl B wa3) (Nat.le_trans HBW.out HLb.out) (Nat.le_trans HBW.out XA3.out.size)
              have hPb : PrimAt ((((((wa3.setCell ⟨wc1.heap.size, 0, none⟩ (.int .i64 b.kind)).setCell ⟨wc1.heap.size, 1, none⟩ (.string b.p)).setCell ⟨wc1.heap.size, 2, none⟩ (.string b.dst)).setCell ⟨wc1.heap.size, 3, none⟩ (.int .i64 b.at_)).setCell ⟨wc1.heap.size, 4, none⟩ (.slice b.a1 b.old.length b.c1)).setCell ⟨wc1.heap.size, 5, none⟩ (.slice b.a2 b.new.length b.c2)) (wc1.heap.size) b := setPrim_at HGb.out b
              have hPa : PrimAt ((((((wa3.setCell ⟨wc1.heap.size, 0, none⟩ (.int .i64 b.kind)).setCell ⟨wc1.heap.size, 1, none⟩ (.string b.p)).setCell ⟨wc1.heap.size, 2, none⟩ (.string b.dst)).setCell ⟨wc1.heap.size, 3, none⟩ (.int .i64 b.at_)).setCell ⟨wc1.heap.size, 4, none⟩ (.slice b.a1 b.old.length b.c1)).setCell ⟨wc1.heap.size, 5, none⟩ (.slice b.a2 b.new.length b.c2)) (wa2.heap.size) ⟨0, ⟨#[]⟩, ⟨#[]⟩, 0, none, 0, [], none, 0, []⟩ := HGa.out.grown g1 (by simpa using HNE.out)
              have XBs := Lib.hid hbs
              have HPb := Lib.hid hPb
              replace HGa := Lib.hid hPa
              replace HOb := Lib.hid (HOb.out.below hB1)
              replace HOa := Lib.hid (HOa.out.below hB1)
              clear g1 hbs hB1 hPb hPa HGb
              go_simp
              refine hK.out _ _ (HKS.out _ XBs.out) (fun hHeld12 => ?_)
              clear hK K hHeld11 m0 mf0 m1 mf1 m2 mf2 m3 mf3 m4 mf4 m5 mf5
              try simp only [Act.put, List.setIfInBounds_toArray, List.set_cons_zero, List.set_cons_succ]
              generalize hwn : ((((((wa3.setCell ⟨wc1.heap.size, 0, none⟩ (.int .i64 b.kind)).setCell ⟨wc1.heap.size, 1, none⟩ (.string b.p)).setCell ⟨wc1.heap.size, 2, none⟩ (.string b.dst)).setCell ⟨wc1.heap.size, 3, none⟩ (.int .i64 b.at_)).setCell ⟨wc1.heap.size, 4, none⟩ (.slice b.a1 b.old.length b.c1)).setCell ⟨wc1.heap.size, 5, none⟩ (.slice b.a2 b.new.length b.c2)) = ws at *
              clear hwn
              refine wpAnyH_ready (rs := [13]) (by kernel_rfl) (by simp) ?_
              refine AllReadyH.cons rfl (fun K hK => ?_) AllReadyH.nil
              have m0 := HGa.out.c0
              have mf0 := HGa.out.fz 0
              have m1 := HGa.out.c1
              have mf1 := HGa.out.fz 1
              have m2 := HGa.out.c2
              have mf2 := HGa.out.fz 2
              have m3 := HGa.out.c3
              have mf3 := HGa.out.fz 3
              have m4 := HGa.out.c4
              have mf4 := HGa.out.fz 4
              have m5 := HGa.out.c5
              have mf5 := HGa.out.fz 5
              have g1 : ws.grownBy ((((((ws.setCell ⟨wa2.heap.size, 0, none⟩ (.int .i64 a.kind)).setCell ⟨wa2.heap.size, 1, none⟩ (.string a.p)).setCell ⟨wa2.heap.size, 2, none⟩ (.string a.dst)).setCell ⟨wa2.heap.size, 3, none⟩ (.int .i64 a.at_)).setCell ⟨wa2.heap.size, 4, none⟩ (.slice a.a1 a.old.length a.c1)).setCell ⟨wa2.heap.size, 5, none⟩ (.slice a.a2 a.new.length a.c2)) (some wa2.heap.size) := setPrim_grown ws wa2.heap.size a
              have hbs : Below wr.heap.size wr ((((((ws.setCell ⟨wa2.heap.size, 0, none⟩ (.int .i64 a.kind)).setCell ⟨wa2.heap.size, 1, none⟩ (.string a.p)).setCell ⟨wa2.heap.size, 2, none⟩ (.string a.dst)).setCell ⟨wa2.heap.size, 3, none⟩ (.int .i64 a.at_)).setCell ⟨wa2.heap.size, 4, none⟩ (.slice a.a1 a.old.length a.c1)).setCell ⟨wa2.heap.size, 5, none⟩ (.slice a.a2 a.new.length a.c2)) := below_prim a XBs.out HLa.out XBs.out.size
              have hB1 : Below B ws ((((((ws.setCell ⟨wa2.heap.size, 0, none⟩ (.int .i64 a.kind)).setCell ⟨wa2.heap.size, 1, none⟩ (.string a.p)).setCell ⟨wa2.heap.size, 2, none⟩ (.string a.dst)).setCell ⟨wa2.heap.size, 3, none⟩ (.int .i64 a.at_)).setCell ⟨wa2.heap.size, 4, none⟩ (.slice a.a1 a.old.length a.c1)).setCell ⟨wa2.heap.size, 5, none⟩ (.slice a.a2 a.new.length a.c2)) := below_prim a (Below.refl B ws) (Nat.le_trans HBW.out HLa.out) (Nat.le_trans HBW.out XBs.out.size)
              have hPa : PrimAt ((((((ws.setCell ⟨wa2.heap.size, 0, none⟩ (.int .i64 a.kind)).setCell ⟨wa2.heap.size, 1, none⟩ (.string a.p)).setCell ⟨wa2.heap.size, 2, none⟩ (.string a.dst)).setCell ⟨wa2.heap.size, 3, none⟩ (.int .i64 a.at_)).setCell ⟨wa2.heap.size, 4, none⟩ (.slice a.a1 a.old.length a.c1)).setCell ⟨wa2.heap.size, 5, none⟩ (.slice a.a2 a.new.length a.c2)) (wa2.heap.size) a := setPrim_at HGa.out a
              have hPb : PrimAt ((((((ws.setCell ⟨wa2.heap.size, 0, none⟩ (.int .i64 a.kind)).setCell ⟨wa2.heap.size, 1, none⟩ (.string a.p)).setCell ⟨wa2.heap.size, 2, none⟩ (.string a.dst)).setCell ⟨wa2.heap.size, 3, none⟩ (.int .i64 a.at_)).setCell ⟨wa2.heap.size, 4, none⟩ (.slice a.a1 a.old.length a.c1)).setCell ⟨wa2.heap.size, 5, none⟩ (.slice a.a2 a.new.length a.c2)) (wc1.heap.size) b := HPb.out.grown g1 (by simpa using Ne.symm HNE.out)
              have XBt := Lib.hid hbs
              replace HPb := Lib.hid hPb
              have HPa := Lib.hid hPa
              replace HOb := Lib.hid (HOb.out.below hB1)
              replace HOa := Lib.hid (HOa.out.below hB1)
              clear g1 hbs hB1 hPb hPa HGa
              go_simp
              refine hK.out _ _ (HKS.out _ XBt.out) (fun hHeld13 => ?_)
              clear hK K hHeld12 m0 mf0 m1 mf1 m2 mf2 m3 mf3 m4 mf4 m5 mf5
              try simp only [Act.put, List.setIfInBounds_toArray, List.set_cons_zero, List.set_cons_succ]
              generalize hwn : ((((((ws.setCell ⟨wa2.heap.size, 0, none⟩ (.int .i64 a.kind)).setCell ⟨wa2.heap.size, 1, none⟩ (.string a.p)).setCell ⟨wa2.heap.size, 2, none⟩ (.string a.dst)).setCell ⟨wa2.heap.size, 3, none⟩ (.int .i64 a.at_)).setCell ⟨wa2.heap.size, 4, none⟩ (.slice a.a1 a.old.length a.c1)).setCell ⟨wa2.heap.size, 5, none⟩ (.slice a.a2 a.new.length a.c2)) = wt at *
              clear hwn
              refine wpAnyH_take (i := 14) (oi := { dst := some 11, op := _, type := _, pos := _, after := _, guard := _ }) (v := .int .i64 er) rfl (by kernel_rfl) (by kernel_rfl) (by kernel_rfl) (fun _ _ _ h => h) (Or.inl ⟨by rfl, fun w' hSw => ?_⟩) (by assumption) ?_
              · ((try dsimp only at hSw); go_simp)
              try simp only [Act.put, List.setIfInBounds_toArray, List.set_cons_zero, List.set_cons_succ]
              refine wpAnyH_done (by kernel_rfl) ?_ _
              refine NoPanic.normal ?_
              go_wp2_with fail
              go_meet
              case rel => exact ⟨wc1.heap.size, wa2.heap.size, b, a, er, rfl, rfl, rfl, ⟨HPb.out, HPa.out, HOb.out, HOa.out, HKP.out, HLb.out, HLa.out, XBt.out⟩⟩
          · have hb : Below wc1.heap.size wc1 (wc1.alloc (.cells #[.int .i64 0, .string ⟨#[]⟩, .string ⟨#[]⟩, .int .i64 0, .slice none 0 0, .slice none 0 0] 33)) := (Below.refl _ _).alloc (Nat.le_refl _) _
            have XA4 := Lib.hid (XC1.out.trans (hb.mono XC1.out.size))
            have hbB := hb.mono (Nat.le_trans HBW.out XC1.out.size)
            replace HOb := Lib.hid (HOb.out.below hbB)
            replace HOa := Lib.hid (HOa.out.below hbB)
            clear hbB
            have HGa : Hid (PrimAt (wc1.alloc (.cells #[.int .i64 0, .string ⟨#[]⟩, .string ⟨#[]⟩, .int .i64 0, .slice none 0 0, .slice none 0 0] 33)) wc1.heap.size ⟨0, ⟨#[]⟩, ⟨#[]⟩, 0, none, 0, [], none, 0, []⟩) := PrimAt.new_ wc1 ⟨0, ⟨#[]⟩, ⟨#[]⟩, 0, none, 0, [], none, 0, []⟩
            have HLa : Hid (wr.heap.size ≤ wc1.heap.size) := XC1.out.size
            clear hb
            go_simp
            refine hK.out _ _ (HKS.out _ XA4.out) (fun hHeld11 => ?_)
            clear hK K hHeld5
            try simp only [Act.put, List.setIfInBounds_toArray, List.set_cons_zero, List.set_cons_succ]
            generalize hwn : (wc1.alloc (.cells #[.int .i64 0, .string ⟨#[]⟩, .string ⟨#[]⟩, .int .i64 0, .slice none 0 0, .slice none 0 0] 33)) = wa4 at *
            clear hwn
            refine wpAnyH_ready (rs := [10]) (by kernel_rfl) (by simp) ?_
            refine AllReadyH.cons rfl (fun K hK => ?_) AllReadyH.nil
            · have HNE : Hid (wa4.heap.size ≠ wc1.heap.size) := by show _ ≠ _; have h1 := HGa.out.lt; omega
              have hb : Below wa4.heap.size wa4 (wa4.alloc (.cells #[.int .i64 0, .string ⟨#[]⟩, .string ⟨#[]⟩, .int .i64 0, .slice none 0 0, .slice none 0 0] 33)) := (Below.refl _ _).alloc (Nat.le_refl _) _
              have XA5 := Lib.hid (XA4.out.trans (hb.mono XA4.out.size))
              replace HGa := Lib.hid (HGa.out.on hb)
              have hbB := hb.mono (Nat.le_trans HBW.out XA4.out.size)
              replace HOb := Lib.hid (HOb.out.below hbB)
              replace HOa := Lib.hid (HOa.out.below hbB)
              clear hbB
              have HGb : Hid (PrimAt (wa4.alloc (.cells #[.int .i64 0, .string ⟨#[]⟩, .string ⟨#[]⟩, .int .i64 0, .slice none 0 0, .slice none 0 0] 33)) wa4.heap.size ⟨0, ⟨#[]⟩, ⟨#[]⟩, 0, none, 0, [], none, 0, []⟩) := PrimAt.new_ wa4 ⟨0, ⟨#[]⟩, ⟨#[]⟩, 0, none, 0, [], none, 0, []⟩
              have HLb : Hid (wr.heap.size ≤ wa4.heap.size) := XA4.out.size
              clear hb
              go_simp
              refine hK.out _ _ (HKS.out _ XA5.out) (fun hHeld10 => ?_)
              clear hK K hHeld11
              try simp only [Act.put, List.setIfInBounds_toArray, List.set_cons_zero, List.set_cons_succ]
              generalize hwn : (wa4.alloc (.cells #[.int .i64 0, .string ⟨#[]⟩, .string ⟨#[]⟩, .int .i64 0, .slice none 0 0, .slice none 0 0] 33)) = wa5 at *
              clear hwn
              refine wpAnyH_ready (rs := [12]) (by kernel_rfl) (by simp) ?_
              refine AllReadyH.cons rfl (fun K hK => ?_) AllReadyH.nil
              have m0 := HGb.out.c0
              have mf0 := HGb.out.fz 0
              have m1 := HGb.out.c1
              have mf1 := HGb.out.fz 1
              have m2 := HGb.out.c2
              have mf2 := HGb.out.fz 2
              have m3 := HGb.out.c3
              have mf3 := HGb.out.fz 3
              have m4 := HGb.out.c4
              have mf4 := HGb.out.fz 4
              have m5 := HGb.out.c5
              have mf5 := HGb.out.fz 5
              have g1 : wa5.grownBy ((((((wa5.setCell ⟨wa4.heap.size, 0, none⟩ (.int .i64 b.kind)).setCell ⟨wa4.heap.size, 1, none⟩ (.string b.p)).setCell ⟨wa4.heap.size, 2, none⟩ (.string b.dst)).setCell ⟨wa4.heap.size, 3, none⟩ (.int .i64 b.at_)).setCell ⟨wa4.heap.size, 4, none⟩ (.slice b.a1 b.old.length b.c1)).setCell ⟨wa4.heap.size, 5, none⟩ (.slice b.a2 b.new.length b.c2)) (some wa4.heap.size) := setPrim_grown wa5 wa4.heap.size b
              have hbs : Below wr.heap.size wr ((((((wa5.setCell ⟨wa4.heap.size, 0, none⟩ (.int .i64 b.kind)).setCell ⟨wa4.heap.size, 1, none⟩ (.string b.p)).setCell ⟨wa4.heap.size, 2, none⟩ (.string b.dst)).setCell ⟨wa4.heap.size, 3, none⟩ (.int .i64 b.at_)).setCell ⟨wa4.heap.size, 4, none⟩ (.slice b.a1 b.old.length b.c1)).setCell ⟨wa4.heap.size, 5, none⟩ (.slice b.a2 b.new.length b.c2)) := below_prim b XA5.out HLb.out XA5.out.size
              have hB1 : Below B wa5 ((((((wa5.setCell ⟨wa4.heap.size, 0, none⟩ (.int .i64 b.kind)).setCell ⟨wa4.heap.size, 1, none⟩ (.string b.p)).setCell ⟨wa4.heap.size, 2, none⟩ (.string b.dst)).setCell ⟨wa4.heap.size, 3, none⟩ (.int .i64 b.at_)).setCell ⟨wa4.heap.size, 4, none⟩ (.slice b.a1 b.old.length b.c1)).setCell ⟨wa4.heap.size, 5, none⟩ (.slice b.a2 b.new.length b.c2)) := below_prim b (Below.refl B wa5) (Nat.le_trans HBW.out HLb.out) (Nat.le_trans HBW.out XA5.out.size)
              have hPb : PrimAt ((((((wa5.setCell ⟨wa4.heap.size, 0, none⟩ (.int .i64 b.kind)).setCell ⟨wa4.heap.size, 1, none⟩ (.string b.p)).setCell ⟨wa4.heap.size, 2, none⟩ (.string b.dst)).setCell ⟨wa4.heap.size, 3, none⟩ (.int .i64 b.at_)).setCell ⟨wa4.heap.size, 4, none⟩ (.slice b.a1 b.old.length b.c1)).setCell ⟨wa4.heap.size, 5, none⟩ (.slice b.a2 b.new.length b.c2)) (wa4.heap.size) b := setPrim_at HGb.out b
              have hPa : PrimAt ((((((wa5.setCell ⟨wa4.heap.size, 0, none⟩ (.int .i64 b.kind)).setCell ⟨wa4.heap.size, 1, none⟩ (.string b.p)).setCell ⟨wa4.heap.size, 2, none⟩ (.string b.dst)).setCell ⟨wa4.heap.size, 3, none⟩ (.int .i64 b.at_)).setCell ⟨wa4.heap.size, 4, none⟩ (.slice b.a1 b.old.length b.c1)).setCell ⟨wa4.heap.size, 5, none⟩ (.slice b.a2 b.new.length b.c2)) (wc1.heap.size) ⟨0, ⟨#[]⟩, ⟨#[]⟩, 0, none, 0, [], none, 0, []⟩ := HGa.out.grown g1 (by simpa using HNE.out)
              have XBs := Lib.hid hbs
              have HPb := Lib.hid hPb
              replace HGa := Lib.hid hPa
              replace HOb := Lib.hid (HOb.out.below hB1)
              replace HOa := Lib.hid (HOa.out.below hB1)
              clear g1 hbs hB1 hPb hPa HGb
              go_simp
              refine hK.out _ _ (HKS.out _ XBs.out) (fun hHeld12 => ?_)
              clear hK K hHeld10 m0 mf0 m1 mf1 m2 mf2 m3 mf3 m4 mf4 m5 mf5
              try simp only [Act.put, List.setIfInBounds_toArray, List.set_cons_zero, List.set_cons_succ]
              generalize hwn : ((((((wa5.setCell ⟨wa4.heap.size, 0, none⟩ (.int .i64 b.kind)).setCell ⟨wa4.heap.size, 1, none⟩ (.string b.p)).setCell ⟨wa4.heap.size, 2, none⟩ (.string b.dst)).setCell ⟨wa4.heap.size, 3, none⟩ (.int .i64 b.at_)).setCell ⟨wa4.heap.size, 4, none⟩ (.slice b.a1 b.old.length b.c1)).setCell ⟨wa4.heap.size, 5, none⟩ (.slice b.a2 b.new.length b.c2)) = ws at *
              clear hwn
              refine wpAnyH_ready (rs := [13]) (by kernel_rfl) (by simp) ?_
              refine AllReadyH.cons rfl (fun K hK => ?_) AllReadyH.nil
              have m0 := HGa.out.c0
              have mf0 := HGa.out.fz 0
              have m1 := HGa.out.c1
              have mf1 := HGa.out.fz 1
              have m2 := HGa.out.c2
              have mf2 := HGa.out.fz 2
              have m3 := HGa.out.c3
              have mf3 := HGa.out.fz 3
              have m4 := HGa.out.c4
              have mf4 := HGa.out.fz 4
              have m5 := HGa.out.c5
              have mf5 := HGa.out.fz 5
              have g1 : ws.grownBy ((((((ws.setCell ⟨wc1.heap.size, 0, none⟩ (.int .i64 a.kind)).setCell ⟨wc1.heap.size, 1, none⟩ (.string a.p)).setCell ⟨wc1.heap.size, 2, none⟩ (.string a.dst)).setCell ⟨wc1.heap.size, 3, none⟩ (.int .i64 a.at_)).setCell ⟨wc1.heap.size, 4, none⟩ (.slice a.a1 a.old.length a.c1)).setCell ⟨wc1.heap.size, 5, none⟩ (.slice a.a2 a.new.length a.c2)) (some wc1.heap.size) := setPrim_grown ws wc1.heap.size a
              have hbs : Below wr.heap.size wr ((((((ws.setCell ⟨wc1.heap.size, 0, none⟩ (.int .i64 a.kind)).setCell ⟨wc1.heap.size, 1, none⟩ (.string a.p)).setCell ⟨wc1.heap.size, 2, none⟩ (.string a.dst)).setCell ⟨wc1.heap.size, 3, none⟩ (.int .i64 a.at_)).setCell ⟨wc1.heap.size, 4, none⟩ (.slice a.a1 a.old.length a.c1)).setCell ⟨wc1.heap.size, 5, none⟩ (.slice a.a2 a.new.length a.c2)) := below_prim a XBs.out HLa.out XBs.out.size
              have hB1 : Below B ws ((((((ws.setCell ⟨wc1.heap.size, 0, none⟩ (.int .i64 a.kind)).setCell ⟨wc1.heap.size, 1, none⟩ (.string a.p)).setCell ⟨wc1.heap.size, 2, none⟩ (.string a.dst)).setCell ⟨wc1.heap.size, 3, none⟩ (.int .i64 a.at_)).setCell ⟨wc1.heap.size, 4, none⟩ (.slice a.a1 a.old.length a.c1)).setCell ⟨wc1.heap.size, 5, none⟩ (.slice a.a2 a.new.length a.c2)) := below_prim a (Below.refl B ws) (Nat.le_trans HBW.out HLa.out) (Nat.le_trans HBW.out XBs.out.size)
              have hPa : PrimAt ((((((ws.setCell ⟨wc1.heap.size, 0, none⟩ (.int .i64 a.kind)).setCell ⟨wc1.heap.size, 1, none⟩ (.string a.p)).setCell ⟨wc1.heap.size, 2, none⟩ (.string a.dst)).setCell ⟨wc1.heap.size, 3, none⟩ (.int .i64 a.at_)).setCell ⟨wc1.heap.size, 4, none⟩ (.slice a.a1 a.old.length a.c1)).setCell ⟨wc1.heap.size, 5, none⟩ (.slice a.a2 a.new.length a.c2)) (wc1.heap.size) a := setPrim_at HGa.out a
              have hPb : PrimAt ((((((ws.setCell ⟨wc1.heap.size, 0, none⟩ (.int .i64 a.kind)).setCell ⟨wc1.heap.size, 1, none⟩ (.string a.p)).setCell ⟨wc1.heap.size, 2, none⟩ (.string a.dst)).setCell ⟨wc1.heap.size, 3, none⟩ (.int .i64 a.at_)).setCell ⟨wc1.heap.size, 4, none⟩ (.slice a.a1 a.old.length a.c1)).setCell ⟨wc1.heap.size, 5, none⟩ (.slice a.a2 a.new.length a.c2)) (wa4.heap.size) b := HPb.out.grown g1 (by simpa using Ne.symm HNE.out)
              have XBt := Lib.hid hbs
              replace HPb := Lib.hid hPb
              have HPa := Lib.hid hPa
              replace HOb := Lib.hid (HOb.out.below hB1)
              replace HOa := Lib.hid (HOa.out.below hB1)
              clear g1 hbs hB1 hPb hPa HGa
              go_simp
              refine hK.out _ _ (HKS.out _ XBt.out) (fun hHeld13 => ?_)
              clear hK K hHeld12 m0 mf0 m1 mf1 m2 mf2 m3 mf3 m4 mf4 m5 mf5
              try simp only [Act.put, List.setIfInBounds_toArray, List.set_cons_zero, List.set_cons_succ]
              generalize hwn : ((((((ws.setCell ⟨wc1.heap.size, 0, none⟩ (.int .i64 a.kind)).setCell ⟨wc1.heap.size, 1, none⟩ (.string a.p)).setCell ⟨wc1.heap.size, 2, none⟩ (.string a.dst)).setCell ⟨wc1.heap.size, 3, none⟩ (.int .i64 a.at_)).setCell ⟨wc1.heap.size, 4, none⟩ (.slice a.a1 a.old.length a.c1)).setCell ⟨wc1.heap.size, 5, none⟩ (.slice a.a2 a.new.length a.c2)) = wt at *
              clear hwn
              refine wpAnyH_take (i := 14) (oi := { dst := some 11, op := _, type := _, pos := _, after := _, guard := _ }) (v := .int .i64 er) rfl (by kernel_rfl) (by kernel_rfl) (by kernel_rfl) (fun _ _ _ h => h) (Or.inl ⟨by rfl, fun w' hSw => ?_⟩) (by assumption) ?_
              · ((try dsimp only at hSw); go_simp)
              try simp only [Act.put, List.setIfInBounds_toArray, List.set_cons_zero, List.set_cons_succ]
              refine wpAnyH_done (by kernel_rfl) ?_ _
              refine NoPanic.normal ?_
              go_wp2_with fail
              go_meet
              case rel => exact ⟨wa4.heap.size, wc1.heap.size, b, a, er, rfl, rfl, rfl, ⟨HPb.out, HPa.out, HOb.out, HOa.out, HKP.out, HLb.out, HLa.out, XBt.out⟩⟩
        · have hb : Below wD.heap.size wD (wD.alloc (.cells #[.int .i64 0, .string ⟨#[]⟩, .string ⟨#[]⟩, .int .i64 0, .slice none 0 0, .slice none 0 0] 33)) := (Below.refl _ _).alloc (Nat.le_refl _) _
          have XA6 := Lib.hid (XB0.out.trans (hb.mono XB0.out.size))
          have HGb : Hid (PrimAt (wD.alloc (.cells #[.int .i64 0, .string ⟨#[]⟩, .string ⟨#[]⟩, .int .i64 0, .slice none 0 0, .slice none 0 0] 33)) wD.heap.size ⟨0, ⟨#[]⟩, ⟨#[]⟩, 0, none, 0, [], none, 0, []⟩) := PrimAt.new_ wD ⟨0, ⟨#[]⟩, ⟨#[]⟩, 0, none, 0, [], none, 0, []⟩
          have HLb : Hid (wr.heap.size ≤ wD.heap.size) := XB0.out.size
          clear hb
          go_simp
          refine hK.out _ _ (HKS.out _ XA6.out) (fun hHeld10 => ?_)
          clear hK K hHeld
          try simp only [Act.put, List.setIfInBounds_toArray, List.set_cons_zero, List.set_cons_succ]
          generalize hwn : (wD.alloc (.cells #[.int .i64 0, .string ⟨#[]⟩, .string ⟨#[]⟩, .int .i64 0, .slice none 0 0, .slice none 0 0] 33)) = wa6 at *
          clear hwn
          refine wpAnyH_ready (rs := [5, 11]) (by kernel_rfl) (by simp) ?_
          refine AllReadyH.cons rfl (fun K hK => ?_) (AllReadyH.cons rfl (fun K hK => ?_) AllReadyH.nil)
          · go_simp
            go_at_call 26
            refine (CP.out _ XA6.out).mono ?_
            rintro e wc7 ⟨b, a, er, rfl, hp, hb⟩
            have XC7 := Lib.hid (XA6.out.trans (hb.mono XA6.out.size))
            have HOb := Lib.hid hp.out.1
            have HOa := Lib.hid hp.out.2.1
            have HKP := Lib.hid hp.out.2.2
            replace HGb := Lib.hid (HGb.out.on hb)
            clear hb hp
            refine hK.out _ _ (HKS.out _ XC7.out) (fun hHeld5 => ?_)
            clear hK K hHeld10
            try simp only [Act.put, List.setIfInBounds_toArray, List.set_cons_zero, List.set_cons_succ]
            refine wpAnyH_take (i := 6) (oi := { dst := some 18, op := _, type := _, pos := _, after := _, guard := _ }) (v := .tuple #[.agg #[.int .i64 b.kind, .string b.p, .string b.dst, .int .i64 b.at_, .slice b.a1 b.old.length b.c1, .slice b.a2 b.new.length b.c2], .agg #[.int .i64 a.kind, .string a.p, .string a.dst, .int .i64 a.at_, .slice a.a1 a.old.length a.c1, .slice a.a2 a.new.length a.c2], .int .i64 er]) rfl (by kernel_rfl) (by kernel_rfl) (by kernel_rfl) (fun _ _ _ h => h) (Or.inl ⟨by rfl, fun w' hSw => ?_⟩) (by assumption) ?_
            · ((try dsimp only at hSw); go_simp)
            try simp only [Act.put, List.setIfInBounds_toArray, List.set_cons_zero, List.set_cons_succ]
            refine wpAnyH_take (i := 7) (oi := { dst := some 25, op := _, type := _, pos := _, after := _, guard := _ }) (v := .agg #[.int .i64 b.kind, .string b.p, .string b.dst, .int .i64 b.at_, .slice b.a1 b.old.length b.c1, .slice b.a2 b.new.length b.c2]) rfl (by kernel_rfl) (by kernel_rfl) (by kernel_rfl) (fun _ _ _ h => h) (Or.inl ⟨by rfl, fun w' hSw => ?_⟩) (by assumption) ?_
            · ((try dsimp only at hSw); go_simp)
            try simp only [Act.put, List.setIfInBounds_toArray, List.set_cons_zero, List.set_cons_succ]
            refine wpAnyH_take (i := 8) (oi := { dst := some 26, op := _, type := _, pos := _, after := _, guard := _ }) (v := .agg #[.int .i64 a.kind, .string a.p, .string a.dst, .int .i64 a.at_, .slice a.a1 a.old.length a.c1, .slice a.a2 a.new.length a.c2]) rfl (by kernel_rfl) (by kernel_rfl) (by kernel_rfl) (fun _ _ _ h => h) (Or.inl ⟨by rfl, fun w' hSw => ?_⟩) (by assumption) ?_
            · ((try dsimp only at hSw); go_simp)
            try simp only [Act.put, List.setIfInBounds_toArray, List.set_cons_zero, List.set_cons_succ]
            refine wpAnyH_take (i := 9) (oi := { dst := some 27, op := _, type := _, pos := _, after := _, guard := _ }) (v := .int .i64 er) rfl (by kernel_rfl) (by kernel_rfl) (by kernel_rfl) (fun _ _ _ h => h) (Or.inl ⟨by rfl, fun w' hSw => ?_⟩) (by assumption) ?_
            · ((try dsimp only at hSw); go_simp)
            try simp only [Act.put, List.setIfInBounds_toArray, List.set_cons_zero, List.set_cons_succ]
            refine wpAnyH_ready (rs := [11]) (by kernel_rfl) (by simp) ?_
            refine AllReadyH.cons rfl (fun K hK => ?_) AllReadyH.nil
            · have HNE : Hid (wD.heap.size ≠ wc7.heap.size) := by show _ ≠ _; have h1 := HGb.out.lt; omega
              have hb : Below wc7.heap.size wc7 (wc7.alloc (.cells #[.int .i64 0, .string ⟨#[]⟩, .string ⟨#[]⟩, .int .i64 0, .slice none 0 0, .slice none 0 0] 33)) := (Below.refl _ _).alloc (Nat.le_refl _) _
              have XA8 := Lib.hid (XC7.out.trans (hb.mono XC7.out.size))
              replace HGb := Lib.hid (HGb.out.on hb)
              have hbB := hb.mono (Nat.le_trans HBW.out XC7.out.size)
              replace HOb := Lib.hid (HOb.out.below hbB)
              replace HOa := Lib.hid (HOa.out.below hbB)
              clear hbB
              have HGa : Hid (PrimAt (wc7.alloc (.cells #[.int .i64 0, .string ⟨#[]⟩, .string ⟨#[]⟩, .int .i64 0, .slice none 0 0, .slice none 0 0] 33)) wc7.heap.size ⟨0, ⟨#[]⟩, ⟨#[]⟩, 0, none, 0, [], none, 0, []⟩) := PrimAt.new_ wc7 ⟨0, ⟨#[]⟩, ⟨#[]⟩, 0, none, 0, [], none, 0, []⟩
              have HLa : Hid (wr.heap.size ≤ wc7.heap.size) := XC7.out.size
              clear hb
              go_simp
              refine hK.out _ _ (HKS.out _ XA8.out) (fun hHeld11 => ?_)
              clear hK K hHeld5
              try simp only [Act.put, List.setIfInBounds_toArray, List.set_cons_zero, List.set_cons_succ]
              generalize hwn : (wc7.alloc (.cells #[.int .i64 0, .string ⟨#[]⟩, .string ⟨#[]⟩, .int .i64 0, .slice none 0 0, .slice none 0 0] 33)) = wa8 at *
              clear hwn
              refine wpAnyH_ready (rs := [12]) (by kernel_rfl) (by simp) ?_
              refine AllReadyH.cons rfl (fun K hK => ?_) AllReadyH.nil
              have m0 := HGb.out.c0
              have mf0 := HGb.out.fz 0
              have m1 := HGb.out.c1
              have mf1 := HGb.out.fz 1
              have m2 := HGb.out.c2
              have mf2 := HGb.out.fz 2
              have m3 := HGb.out.c3
              have mf3 := HGb.out.fz 3
              have m4 := HGb.out.c4
              have mf4 := HGb.out.fz 4
              have m5 := HGb.out.c5
              have mf5 := HGb.out.fz 5
              have g1 : wa8.grownBy ((((((wa8.setCell ⟨wD.heap.size, 0, none⟩ (.int .i64 b.kind)).setCell ⟨wD.heap.size, 1, none⟩ (.string b.p)).setCell ⟨wD.heap.size, 2, none⟩ (.string b.dst)).setCell ⟨wD.heap.size, 3, none⟩ (.int .i64 b.at_)).setCell ⟨wD.heap.size, 4, none⟩ (.slice b.a1 b.old.length b.c1)).setCell ⟨wD.heap.size, 5, none⟩ (.slice b.a2 b.new.length b.c2)) (some wD.heap.size) := setPrim_grown wa8 wD.heap.size b
              have hbs : Below wr.heap.size wr ((((((wa8.setCell ⟨wD.heap.size, 0, none⟩ (.int .i64 b.kind)).setCell ⟨wD.heap.size, 1, none⟩ (.string b.p)).setCell ⟨wD.heap.size, 2, none⟩ (.string b.dst)).setCell ⟨wD.heap.size, 3, none⟩ (.int .i64 b.at_)).setCell ⟨wD.heap.size, 4, none⟩ (.slice b.a1 b.old.length b.c1)).setCell ⟨wD.heap.size, 5, none⟩ (.slice b.a2 b.new.length b.c2)) := below_prim b XA8.out HLb.out XA8.out.size
              have hB1 : Below B wa8 ((((((wa8.setCell ⟨wD.heap.size, 0, none⟩ (.int .i64 b.kind)).setCell ⟨wD.heap.size, 1, none⟩ (.string b.p)).setCell ⟨wD.heap.size, 2, none⟩ (.string b.dst)).setCell ⟨wD.heap.size, 3, none⟩ (.int .i64 b.at_)).setCell ⟨wD.heap.size, 4, none⟩ (.slice b.a1 b.old.length b.c1)).setCell ⟨wD.heap.size, 5, none⟩ (.slice b.a2 b.new.length b.c2)) := below_prim b (Below.refl B wa8) (Nat.le_trans HBW.out HLb.out) (Nat.le_trans HBW.out XA8.out.size)
              have hPb : PrimAt ((((((wa8.setCell ⟨wD.heap.size, 0, none⟩ (.int .i64 b.kind)).setCell ⟨wD.heap.size, 1, none⟩ (.string b.p)).setCell ⟨wD.heap.size, 2, none⟩ (.string b.dst)).setCell ⟨wD.heap.size, 3, none⟩ (.int .i64 b.at_)).setCell ⟨wD.heap.size, 4, none⟩ (.slice b.a1 b.old.length b.c1)).setCell ⟨wD.heap.size, 5, none⟩ (.slice b.a2 b.new.length b.c2)) (wD.heap.size) b := setPrim_at HGb.out b
              have hPa : PrimAt ((((((wa8.setCell ⟨wD.heap.size, 0, none⟩ (.int .i64 b.kind)).setCell ⟨wD.heap.size, 1, none⟩ (.string b.p)).setCell ⟨wD.heap.size, 2, none⟩ (.string b.dst)).setCell ⟨wD.heap.size, 3, none⟩ (.int .i64 b.at_)).setCell ⟨wD.heap.size, 4, none⟩ (.slice b.a1 b.old.length b.c1)).setCell ⟨wD.heap.size, 5, none⟩ (.slice b.a2 b.new.length b.c2)) (wc7.heap.size) ⟨0, ⟨#[]⟩, ⟨#[]⟩, 0, none, 0, [], none, 0, []⟩ := HGa.out.grown g1 (by simpa using HNE.out)
              have XBs := Lib.hid hbs
              have HPb := Lib.hid hPb
              replace HGa := Lib.hid hPa
              replace HOb := Lib.hid (HOb.out.below hB1)
              replace HOa := Lib.hid (HOa.out.below hB1)
              clear g1 hbs hB1 hPb hPa HGb
              go_simp
              refine hK.out _ _ (HKS.out _ XBs.out) (fun hHeld12 => ?_)
              clear hK K hHeld11 m0 mf0 m1 mf1 m2 mf2 m3 mf3 m4 mf4 m5 mf5
              try simp only [Act.put, List.setIfInBounds_toArray, List.set_cons_zero, List.set_cons_succ]
              generalize hwn : ((((((wa8.setCell ⟨wD.heap.size, 0, none⟩ (.int .i64 b.kind)).setCell ⟨wD.heap.size, 1, none⟩ (.string b.p)).setCell ⟨wD.heap.size, 2, none⟩ (.string b.dst)).setCell ⟨wD.heap.size, 3, none⟩ (.int .i64 b.at_)).setCell ⟨wD.heap.size, 4, none⟩ (.slice b.a1 b.old.length b.c1)).setCell ⟨wD.heap.size, 5, none⟩ (.slice b.a2 b.new.length b.c2)) = ws at *
              clear hwn
              refine wpAnyH_ready (rs := [13]) (by kernel_rfl) (by simp) ?_
              refine AllReadyH.cons rfl (fun K hK => ?_) AllReadyH.nil
              have m0 := HGa.out.c0
              have mf0 := HGa.out.fz 0
              have m1 := HGa.out.c1
              have mf1 := HGa.out.fz 1
              have m2 := HGa.out.c2
              have mf2 := HGa.out.fz 2
              have m3 := HGa.out.c3
              have mf3 := HGa.out.fz 3
              have m4 := HGa.out.c4
              have mf4 := HGa.out.fz 4
              have m5 := HGa.out.c5
              have mf5 := HGa.out.fz 5
              have g1 : ws.grownBy ((((((ws.setCell ⟨wc7.heap.size, 0, none⟩ (.int .i64 a.kind)).setCell ⟨wc7.heap.size, 1, none⟩ (.string a.p)).setCell ⟨wc7.heap.size, 2, none⟩ (.string a.dst)).setCell ⟨wc7.heap.size, 3, none⟩ (.int .i64 a.at_)).setCell ⟨wc7.heap.size, 4, none⟩ (.slice a.a1 a.old.length a.c1)).setCell ⟨wc7.heap.size, 5, none⟩ (.slice a.a2 a.new.length a.c2)) (some wc7.heap.size) := setPrim_grown ws wc7.heap.size a
              have hbs : Below wr.heap.size wr ((((((ws.setCell ⟨wc7.heap.size, 0, none⟩ (.int .i64 a.kind)).setCell ⟨wc7.heap.size, 1, none⟩ (.string a.p)).setCell ⟨wc7.heap.size, 2, none⟩ (.string a.dst)).setCell ⟨wc7.heap.size, 3, none⟩ (.int .i64 a.at_)).setCell ⟨wc7.heap.size, 4, none⟩ (.slice a.a1 a.old.length a.c1)).setCell ⟨wc7.heap.size, 5, none⟩ (.slice a.a2 a.new.length a.c2)) := below_prim a XBs.out HLa.out XBs.out.size
              have hB1 : Below B ws ((((((ws.setCell ⟨wc7.heap.size, 0, none⟩ (.int .i64 a.kind)).setCell ⟨wc7.heap.size, 1, none⟩ (.string a.p)).setCell ⟨wc7.heap.size, 2, none⟩ (.string a.dst)).setCell ⟨wc7.heap.size, 3, none⟩ (.int .i64 a.at_)).setCell ⟨wc7.heap.size, 4, none⟩ (.slice a.a1 a.old.length a.c1)).setCell ⟨wc7.heap.size, 5, none⟩ (.slice a.a2 a.new.length a.c2)) := below_prim a (Below.refl B ws) (Nat.le_trans HBW.out HLa.out) (Nat.le_trans HBW.out XBs.out.size)
              have hPa : PrimAt ((((((ws.setCell ⟨wc7.heap.size, 0, none⟩ (.int .i64 a.kind)).setCell ⟨wc7.heap.size, 1, none⟩ (.string a.p)).setCell ⟨wc7.heap.size, 2, none⟩ (.string a.dst)).setCell ⟨wc7.heap.size, 3, none⟩ (.int .i64 a.at_)).setCell ⟨wc7.heap.size, 4, none⟩ (.slice a.a1 a.old.length a.c1)).setCell ⟨wc7.heap.size, 5, none⟩ (.slice a.a2 a.new.length a.c2)) (wc7.heap.size) a := setPrim_at HGa.out a
              have hPb : PrimAt ((((((ws.setCell ⟨wc7.heap.size, 0, none⟩ (.int .i64 a.kind)).setCell ⟨wc7.heap.size, 1, none⟩ (.string a.p)).setCell ⟨wc7.heap.size, 2, none⟩ (.string a.dst)).setCell ⟨wc7.heap.size, 3, none⟩ (.int .i64 a.at_)).setCell ⟨wc7.heap.size, 4, none⟩ (.slice a.a1 a.old.length a.c1)).setCell ⟨wc7.heap.size, 5, none⟩ (.slice a.a2 a.new.length a.c2)) (wD.heap.size) b := HPb.out.grown g1 (by simpa using Ne.symm HNE.out)
              have XBt := Lib.hid hbs
              replace HPb := Lib.hid hPb
              have HPa := Lib.hid hPa
              replace HOb := Lib.hid (HOb.out.below hB1)
              replace HOa := Lib.hid (HOa.out.below hB1)
              clear g1 hbs hB1 hPb hPa HGa
              go_simp
              refine hK.out _ _ (HKS.out _ XBt.out) (fun hHeld13 => ?_)
              clear hK K hHeld12 m0 mf0 m1 mf1 m2 mf2 m3 mf3 m4 mf4 m5 mf5
              try simp only [Act.put, List.setIfInBounds_toArray, List.set_cons_zero, List.set_cons_succ]
              generalize hwn : ((((((ws.setCell ⟨wc7.heap.size, 0, none⟩ (.int .i64 a.kind)).setCell ⟨wc7.heap.size, 1, none⟩ (.string a.p)).setCell ⟨wc7.heap.size, 2, none⟩ (.string a.dst)).setCell ⟨wc7.heap.size, 3, none⟩ (.int .i64 a.at_)).setCell ⟨wc7.heap.size, 4, none⟩ (.slice a.a1 a.old.length a.c1)).setCell ⟨wc7.heap.size, 5, none⟩ (.slice a.a2 a.new.length a.c2)) = wt at *
              clear hwn
              refine wpAnyH_take (i := 14) (oi := { dst := some 11, op := _, type := _, pos := _, after := _, guard := _ }) (v := .int .i64 er) rfl (by kernel_rfl) (by kernel_rfl) (by kernel_rfl) (fun _ _ _ h => h) (Or.inl ⟨by rfl, fun w' hSw => ?_⟩) (by assumption) ?_
              · ((try dsimp only at hSw); go_simp)
              try simp only [Act.put, List.setIfInBounds_toArray, List.set_cons_zero, List.set_cons_succ]
              refine wpAnyH_done (by kernel_rfl) ?_ _
              refine NoPanic.normal ?_
              go_wp2_with fail
              go_meet
              case rel => exact ⟨wD.heap.size, wc7.heap.size, b, a, er, rfl, rfl, rfl, ⟨HPb.out, HPa.out, HOb.out, HOa.out, HKP.out, HLb.out, HLa.out, XBt.out⟩⟩
          · have HNE : Hid (wD.heap.size ≠ wa6.heap.size) := by show _ ≠ _; have h1 := HGb.out.lt; omega
            have hb : Below wa6.heap.size wa6 (wa6.alloc (.cells #[.int .i64 0, .string ⟨#[]⟩, .string ⟨#[]⟩, .int .i64 0, .slice none 0 0, .slice none 0 0] 33)) := (Below.refl _ _).alloc (Nat.le_refl _) _
            have XA9 := Lib.hid (XA6.out.trans (hb.mono XA6.out.size))
            replace HGb := Lib.hid (HGb.out.on hb)
            have HGa : Hid (PrimAt (wa6.alloc (.cells #[.int .i64 0, .string ⟨#[]⟩, .string ⟨#[]⟩, .int .i64 0, .slice none 0 0, .slice none 0 0] 33)) wa6.heap.size ⟨0, ⟨#[]⟩, ⟨#[]⟩, 0, none, 0, [], none, 0, []⟩) := PrimAt.new_ wa6 ⟨0, ⟨#[]⟩, ⟨#[]⟩, 0, none, 0, [], none, 0, []⟩
            have HLa : Hid (wr.heap.size ≤ wa6.heap.size) := XA6.out.size
            clear hb
            go_simp
            refine hK.out _ _ (HKS.out _ XA9.out) (fun hHeld11 => ?_)
            clear hK K hHeld10
            try simp only [Act.put, List.setIfInBounds_toArray, List.set_cons_zero, List.set_cons_succ]
            generalize hwn : (wa6.alloc (.cells #[.int .i64 0, .string ⟨#[]⟩, .string ⟨#[]⟩, .int .i64 0, .slice none 0 0, .slice none 0 0] 33)) = wa9 at *
            clear hwn
            refine wpAnyH_ready (rs := [5]) (by kernel_rfl) (by simp) ?_
            refine AllReadyH.cons rfl (fun K hK => ?_) AllReadyH.nil
            · go_simp
              go_at_call 26
              refine (CP.out _ XA9.out).mono ?_
              rintro e wc10 ⟨b, a, er, rfl, hp, hb⟩
              have XC10 := Lib.hid (XA9.out.trans (hb.mono XA9.out.size))
              have HOb := Lib.hid hp.out.1
              have HOa := Lib.hid hp.out.2.1
              have HKP := Lib.hid hp.out.2.2
              replace HGb := Lib.hid (HGb.out.on hb)
              replace HGa := Lib.hid (HGa.out.on hb)
              clear hb hp
              refine hK.out _ _ (HKS.out _ XC10.out) (fun hHeld5 => ?_)
              clear hK K hHeld11
              try simp only [Act.put, List.setIfInBounds_toArray, List.set_cons_zero, List.set_cons_succ]
              refine wpAnyH_take (i := 6) (oi := { dst := some 18, op := _, type := _, pos := _, after := _, guard := _ }) (v := .tuple #[.agg #[.int .i64 b.kind, .string b.p, .string b.dst, .int .i64 b.at_, .slice b.a1 b.old.length b.c1, .slice b.a2 b.new.length b.c2], .agg #[.int .i64 a.kind, .string a.p, .string a.dst, .int .i64 a.at_, .slice a.a1 a.old.length a.c1, .slice a.a2 a.new.length a.c2], .int .i64 er]) rfl (by kernel_rfl) (by kernel_rfl) (by kernel_rfl) (fun _ _ _ h => h) (Or.inl ⟨by rfl, fun w' hSw => ?_⟩) (by assumption) ?_
              · ((try dsimp only at hSw); go_simp)
              try simp only [Act.put, List.setIfInBounds_toArray, List.set_cons_zero, List.set_cons_succ]
              refine wpAnyH_take (i := 7) (oi := { dst := some 25, op := _, type := _, pos := _, after := _, guard := _ }) (v := .agg #[.int .i64 b.kind, .string b.p, .string b.dst, .int .i64 b.at_, .slice b.a1 b.old.length b.c1, .slice b.a2 b.new.length b.c2]) rfl (by kernel_rfl) (by kernel_rfl) (by kernel_rfl) (fun _ _ _ h => h) (Or.inl ⟨by rfl, fun w' hSw => ?_⟩) (by assumption) ?_
              · ((try dsimp only at hSw); go_simp)
              try simp only [Act.put, List.setIfInBounds_toArray, List.set_cons_zero, List.set_cons_succ]
              refine wpAnyH_take (i := 8) (oi := { dst := some 26, op := _, type := _, pos := _, after := _, guard := _ }) (v := .agg #[.int .i64 a.kind, .string a.p, .string a.dst, .int .i64 a.at_, .slice a.a1 a.old.length a.c1, .slice a.a2 a.new.length a.c2]) rfl (by kernel_rfl) (by kernel_rfl) (by kernel_rfl) (fun _ _ _ h => h) (Or.inl ⟨by rfl, fun w' hSw => ?_⟩) (by assumption) ?_
              · ((try dsimp only at hSw); go_simp)
              try simp only [Act.put, List.setIfInBounds_toArray, List.set_cons_zero, List.set_cons_succ]
              refine wpAnyH_take (i := 9) (oi := { dst := some 27, op := _, type := _, pos := _, after := _, guard := _ }) (v := .int .i64 er) rfl (by kernel_rfl) (by kernel_rfl) (by kernel_rfl) (fun _ _ _ h => h) (Or.inl ⟨by rfl, fun w' hSw => ?_⟩) (by assumption) ?_
              · ((try dsimp only at hSw); go_simp)
              try simp only [Act.put, List.setIfInBounds_toArray, List.set_cons_zero, List.set_cons_succ]
              refine wpAnyH_ready (rs := [12]) (by kernel_rfl) (by simp) ?_
              refine AllReadyH.cons rfl (fun K hK => ?_) AllReadyH.nil
              have m0 := HGb.out.c0
              have mf0 := HGb.out.fz 0
              have m1 := HGb.out.c1
              have mf1 := HGb.out.fz 1
              have m2 := HGb.out.c2
              have mf2 := HGb.out.fz 2
              have m3 := HGb.out.c3
              have mf3 := HGb.out.fz 3
              have m4 := HGb.out.c4
              have mf4 := HGb.out.fz 4
              have m5 := HGb.out.c5
              have mf5 := HGb.out.fz 5
              have g1 : wc10.grownBy ((((((wc10.setCell ⟨wD.heap.size, 0, none⟩ (.int .i64 b.kind)).setCell ⟨wD.heap.size, 1, none⟩ (.string b.p)).setCell ⟨wD.heap.size, 2, none⟩ (.string b.dst)).setCell ⟨wD.heap.size, 3, none⟩ (.int .i64 b.at_)).setCell ⟨wD.heap.size, 4, none⟩ (.slice b.a1 b.old.length b.c1)).setCell ⟨wD.heap.size, 5, none⟩ (.slice b.a2 b.new.length b.c2)) (some wD.heap.size) := setPrim_grown wc10 wD.heap.size b
              have hbs : Below wr.heap.size wr ((((((wc10.setCell ⟨wD.heap.size, 0, none⟩ (.int .i64 b.kind)).setCell ⟨wD.heap.size, 1, none⟩ (.string b.p)).setCell ⟨wD.heap.size, 2, none⟩ (.string b.dst)).setCell ⟨wD.heap.size, 3, none⟩ (.int .i64 b.at_)).setCell ⟨wD.heap.size, 4, none⟩ (.slice b.a1 b.old.length b.c1)).setCell ⟨wD.heap.size, 5, none⟩ (.slice b.a2 b.new.length b.c2)) := below_prim b XC10.out HLb.out XC10.out.size
              have hB1 : Below B wc10 ((((((wc10.setCell ⟨wD.heap.size, 0, none⟩ (.int .i64 b.kind)).setCell ⟨wD.heap.size, 1, none⟩ (.string b.p)).setCell ⟨wD.heap.size, 2, none⟩ (.string b.dst)).setCell ⟨wD.heap.size, 3, none⟩ (.int .i64 b.at_)).setCell ⟨wD.heap.size, 4, none⟩ (.slice b.a1 b.old.length b.c1)).setCell ⟨wD.heap.size, 5, none⟩ (.slice b.a2 b.new.length b.c2)) := below_prim b (Below.refl B wc10) (Nat.le_trans HBW.out HLb.out) (Nat.le_trans HBW.out XC10.out.size)
              have hPb : PrimAt ((((((wc10.setCell ⟨wD.heap.size, 0, none⟩ (.int .i64 b.kind)).setCell ⟨wD.heap.size, 1, none⟩ (.string b.p)).setCell ⟨wD.heap.size, 2, none⟩ (.string b.dst)).setCell ⟨wD.heap.size, 3, none⟩ (.int .i64 b.at_)).setCell ⟨wD.heap.size, 4, none⟩ (.slice b.a1 b.old.length b.c1)).setCell ⟨wD.heap.size, 5, none⟩ (.slice b.a2 b.new.length b.c2)) (wD.heap.size) b := setPrim_at HGb.out b
              have hPa : PrimAt ((((((wc10.setCell ⟨wD.heap.size, 0, none⟩ (.int .i64 b.kind)).setCell ⟨wD.heap.size, 1, none⟩ (.string b.p)).setCell ⟨wD.heap.size, 2, none⟩ (.string b.dst)).setCell ⟨wD.heap.size, 3, none⟩ (.int .i64 b.at_)).setCell ⟨wD.heap.size, 4, none⟩ (.slice b.a1 b.old.length b.c1)).setCell ⟨wD.heap.size, 5, none⟩ (.slice b.a2 b.new.length b.c2)) (wa6.heap.size) ⟨0, ⟨#[]⟩, ⟨#[]⟩, 0, none, 0, [], none, 0, []⟩ := HGa.out.grown g1 (by simpa using HNE.out)
              have XBs := Lib.hid hbs
              have HPb := Lib.hid hPb
              replace HGa := Lib.hid hPa
              replace HOb := Lib.hid (HOb.out.below hB1)
              replace HOa := Lib.hid (HOa.out.below hB1)
              clear g1 hbs hB1 hPb hPa HGb
              go_simp
              refine hK.out _ _ (HKS.out _ XBs.out) (fun hHeld12 => ?_)
              clear hK K hHeld5 m0 mf0 m1 mf1 m2 mf2 m3 mf3 m4 mf4 m5 mf5
              try simp only [Act.put, List.setIfInBounds_toArray, List.set_cons_zero, List.set_cons_succ]
              generalize hwn : ((((((wc10.setCell ⟨wD.heap.size, 0, none⟩ (.int .i64 b.kind)).setCell ⟨wD.heap.size, 1, none⟩ (.string b.p)).setCell ⟨wD.heap.size, 2, none⟩ (.string b.dst)).setCell ⟨wD.heap.size, 3, none⟩ (.int .i64 b.at_)).setCell ⟨wD.heap.size, 4, none⟩ (.slice b.a1 b.old.length b.c1)).setCell ⟨wD.heap.size, 5, none⟩ (.slice b.a2 b.new.length b.c2)) = ws at *
              clear hwn
              refine wpAnyH_ready (rs := [13]) (by kernel_rfl) (by simp) ?_
              refine AllReadyH.cons rfl (fun K hK => ?_) AllReadyH.nil
              have m0 := HGa.out.c0
              have mf0 := HGa.out.fz 0
              have m1 := HGa.out.c1
              have mf1 := HGa.out.fz 1
              have m2 := HGa.out.c2
              have mf2 := HGa.out.fz 2
              have m3 := HGa.out.c3
              have mf3 := HGa.out.fz 3
              have m4 := HGa.out.c4
              have mf4 := HGa.out.fz 4
              have m5 := HGa.out.c5
              have mf5 := HGa.out.fz 5
              have g1 : ws.grownBy ((((((ws.setCell ⟨wa6.heap.size, 0, none⟩ (.int .i64 a.kind)).setCell ⟨wa6.heap.size, 1, none⟩ (.string a.p)).setCell ⟨wa6.heap.size, 2, none⟩ (.string a.dst)).setCell ⟨wa6.heap.size, 3, none⟩ (.int .i64 a.at_)).setCell ⟨wa6.heap.size, 4, none⟩ (.slice a.a1 a.old.length a.c1)).setCell ⟨wa6.heap.size, 5, none⟩ (.slice a.a2 a.new.length a.c2)) (some wa6.heap.size) := setPrim_grown ws wa6.heap.size a
              have hbs : Below wr.heap.size wr ((((((ws.setCell ⟨wa6.heap.size, 0, none⟩ (.int .i64 a.kind)).setCell ⟨wa6.heap.size, 1, none⟩ (.string a.p)).setCell ⟨wa6.heap.size, 2, none⟩ (.string a.dst)).setCell ⟨wa6.heap.size, 3, none⟩ (.int .i64 a.at_)).setCell ⟨wa6.heap.size, 4, none⟩ (.slice a.a1 a.old.length a.c1)).setCell ⟨wa6.heap.size, 5, none⟩ (.slice a.a2 a.new.length a.c2)) := below_prim a XBs.out HLa.out XBs.out.size
              have hB1 : Below B ws ((((((ws.setCell ⟨wa6.heap.size, 0, none⟩ (.int .i64 a.kind)).setCell ⟨wa6.heap.size, 1, none⟩ (.string a.p)).setCell ⟨wa6.heap.size, 2, none⟩ (.string a.dst)).setCell ⟨wa6.heap.size, 3, none⟩ (.int .i64 a.at_)).setCell ⟨wa6.heap.size, 4, none⟩ (.slice a.a1 a.old.length a.c1)).setCell ⟨wa6.heap.size, 5, none⟩ (.slice a.a2 a.new.length a.c2)) := below_prim a (Below.refl B ws) (Nat.le_trans HBW.out HLa.out) (Nat.le_trans HBW.out XBs.out.size)
              have hPa : PrimAt ((((((ws.setCell ⟨wa6.heap.size, 0, none⟩ (.int .i64 a.kind)).setCell ⟨wa6.heap.size, 1, none⟩ (.string a.p)).setCell ⟨wa6.heap.size, 2, none⟩ (.string a.dst)).setCell ⟨wa6.heap.size, 3, none⟩ (.int .i64 a.at_)).setCell ⟨wa6.heap.size, 4, none⟩ (.slice a.a1 a.old.length a.c1)).setCell ⟨wa6.heap.size, 5, none⟩ (.slice a.a2 a.new.length a.c2)) (wa6.heap.size) a := setPrim_at HGa.out a
              have hPb : PrimAt ((((((ws.setCell ⟨wa6.heap.size, 0, none⟩ (.int .i64 a.kind)).setCell ⟨wa6.heap.size, 1, none⟩ (.string a.p)).setCell ⟨wa6.heap.size, 2, none⟩ (.string a.dst)).setCell ⟨wa6.heap.size, 3, none⟩ (.int .i64 a.at_)).setCell ⟨wa6.heap.size, 4, none⟩ (.slice a.a1 a.old.length a.c1)).setCell ⟨wa6.heap.size, 5, none⟩ (.slice a.a2 a.new.length a.c2)) (wD.heap.size) b := HPb.out.grown g1 (by simpa using Ne.symm HNE.out)
              have XBt := Lib.hid hbs
              replace HPb := Lib.hid hPb
              have HPa := Lib.hid hPa
              replace HOb := Lib.hid (HOb.out.below hB1)
              replace HOa := Lib.hid (HOa.out.below hB1)
              clear g1 hbs hB1 hPb hPa HGa
              go_simp
              refine hK.out _ _ (HKS.out _ XBt.out) (fun hHeld13 => ?_)
              clear hK K hHeld12 m0 mf0 m1 mf1 m2 mf2 m3 mf3 m4 mf4 m5 mf5
              try simp only [Act.put, List.setIfInBounds_toArray, List.set_cons_zero, List.set_cons_succ]
              generalize hwn : ((((((ws.setCell ⟨wa6.heap.size, 0, none⟩ (.int .i64 a.kind)).setCell ⟨wa6.heap.size, 1, none⟩ (.string a.p)).setCell ⟨wa6.heap.size, 2, none⟩ (.string a.dst)).setCell ⟨wa6.heap.size, 3, none⟩ (.int .i64 a.at_)).setCell ⟨wa6.heap.size, 4, none⟩ (.slice a.a1 a.old.length a.c1)).setCell ⟨wa6.heap.size, 5, none⟩ (.slice a.a2 a.new.length a.c2)) = wt at *
              clear hwn
              refine wpAnyH_take (i := 14) (oi := { dst := some 11, op := _, type := _, pos := _, after := _, guard := _ }) (v := .int .i64 er) rfl (by kernel_rfl) (by kernel_rfl) (by kernel_rfl) (fun _ _ _ h => h) (Or.inl ⟨by rfl, fun w' hSw => ?_⟩) (by assumption) ?_
              · ((try dsimp only at hSw); go_simp)
              try simp only [Act.put, List.setIfInBounds_toArray, List.set_cons_zero, List.set_cons_succ]
              refine wpAnyH_done (by kernel_rfl) ?_ _
              refine NoPanic.normal ?_
              go_wp2_with fail
              go_meet
              case rel => exact ⟨wD.heap.size, wa6.heap.size, b, a, er, rfl, rfl, rfl, ⟨HPb.out, HPa.out, HOb.out, HOa.out, HKP.out, HLb.out, HLa.out, XBt.out⟩⟩
        · have hb : Below wD.heap.size wD (wD.alloc (.cells #[.int .i64 0, .string ⟨#[]⟩, .string ⟨#[]⟩, .int .i64 0, .slice none 0 0, .slice none 0 0] 33)) := (Below.refl _ _).alloc (Nat.le_refl _) _
          have XA11 := Lib.hid (XB0.out.trans (hb.mono XB0.out.size))
          have HGa : Hid (PrimAt (wD.alloc (.cells #[.int .i64 0, .string ⟨#[]⟩, .string ⟨#[]⟩, .int .i64 0, .slice none 0 0, .slice none 0 0] 33)) wD.heap.size ⟨0, ⟨#[]⟩, ⟨#[]⟩, 0, none, 0, [], none, 0, []⟩) := PrimAt.new_ wD ⟨0, ⟨#[]⟩, ⟨#[]⟩, 0, none, 0, [], none, 0, []⟩
          have HLa : Hid (wr.heap.size ≤ wD.heap.size) := XB0.out.size
          clear hb
          go_simp
          refine hK.out _ _ (HKS.out _ XA11.out) (fun hHeld11 => ?_)
          clear hK K hHeld
          try simp only [Act.put, List.setIfInBounds_toArray, List.set_cons_zero, List.set_cons_succ]
          generalize hwn : (wD.alloc (.cells #[.int .i64 0, .string ⟨#[]⟩, .string ⟨#[]⟩, .int .i64 0, .slice none 0 0, .slice none 0 0] 33)) = wa11 at *
          clear hwn
          refine wpAnyH_ready (rs := [5, 10]) (by kernel_rfl) (by simp) ?_
          refine AllReadyH.cons rfl (fun K hK => ?_) (AllReadyH.cons rfl (fun K hK => ?_) AllReadyH.nil)
          · go_simp
            go_at_call 26
            refine (CP.out _ XA11.out).mono ?_
            rintro e wc12 ⟨b, a, er, rfl, hp, hb⟩
            have XC12 := Lib.hid (XA11.out.trans (hb.mono XA11.out.size))
            have HOb := Lib.hid hp.out.1
            have HOa := Lib.hid hp.out.2.1
            have HKP := Lib.hid hp.out.2.2
            replace HGa := Lib.hid (HGa.out.on hb)
            clear hb hp
            refine hK.out _ _ (HKS.out _ XC12.out) (fun hHeld5 => ?_)
            clear hK K hHeld11
            try simp only [Act.put, List.setIfInBounds_toArray, List.set_cons_zero, List.set_cons_succ]
            refine wpAnyH_take (i := 6) (oi := { dst := some 18, op := _, type := _, pos := _, after := _, guard := _ }) (v := .tuple #[.agg #[.int .i64 b.kind, .string b.p, .string b.dst, .int .i64 b.at_, .slice b.a1 b.old.length b.c1, .slice b.a2 b.new.length b.c2], .agg #[.int .i64 a.kind, .string a.p, .string a.dst, .int .i64 a.at_, .slice a.a1 a.old.length a.c1, .slice a.a2 a.new.length a.c2], .int .i64 er]) rfl (by kernel_rfl) (by kernel_rfl) (by kernel_rfl) (fun _ _ _ h => h) (Or.inl ⟨by rfl, fun w' hSw => ?_⟩) (by assumption) ?_
            · ((try dsimp only at hSw); go_simp)
            try simp only [Act.put, List.setIfInBounds_toArray, List.set_cons_zero, List.set_cons_succ]
            refine wpAnyH_take (i := 7) (oi := { dst := some 25, op := _, type := _, pos := _, after := _, guard := _ }) (v := .agg #[.int .i64 b.kind, .string b.p, .string b.dst, .int .i64 b.at_, .slice b.a1 b.old.length b.c1, .slice b.a2 b.new.length b.c2]) rfl (by kernel_rfl) (by kernel_rfl) (by kernel_rfl) (fun _ _ _ h => h) (Or.inl ⟨by rfl, fun w' hSw => ?_⟩) (by assumption) ?_
            · ((try dsimp only at hSw); go_simp)
            try simp only [Act.put, List.setIfInBounds_toArray, List.set_cons_zero, List.set_cons_succ]
            refine wpAnyH_take (i := 8) (oi := { dst := some 26, op := _, type := _, pos := _, after := _, guard := _ }) (v := .agg #[.int .i64 a.kind, .string a.p, .string a.dst, .int .i64 a.at_, .slice a.a1 a.old.length a.c1, .slice a.a2 a.new.length a.c2]) rfl (by kernel_rfl) (by kernel_rfl) (by kernel_rfl) (fun _ _ _ h => h) (Or.inl ⟨by rfl, fun w' hSw => ?_⟩) (by assumption) ?_
            · ((try dsimp only at hSw); go_simp)
            try simp only [Act.put, List.setIfInBounds_toArray, List.set_cons_zero, List.set_cons_succ]
            refine wpAnyH_take (i := 9) (oi := { dst := some 27, op := _, type := _, pos := _, after := _, guard := _ }) (v := .int .i64 er) rfl (by kernel_rfl) (by kernel_rfl) (by kernel_rfl) (fun _ _ _ h => h) (Or.inl ⟨by rfl, fun w' hSw => ?_⟩) (by assumption) ?_
            · ((try dsimp only at hSw); go_simp)
            try simp only [Act.put, List.setIfInBounds_toArray, List.set_cons_zero, List.set_cons_succ]
            refine wpAnyH_ready (rs := [10]) (by kernel_rfl) (by simp) ?_
            refine AllReadyH.cons rfl (fun K hK => ?_) AllReadyH.nil
            · have HNE : Hid (wc12.heap.size ≠ wD.heap.size) := by show _ ≠ _; have h1 := HGa.out.lt; omega
              have hb : Below wc12.heap.size wc12 (wc12.alloc (.cells #[.int .i64 0, .string ⟨#[]⟩, .string ⟨#[]⟩, .int .i64 0, .slice none 0 0, .slice none 0 0] 33)) := (Below.refl _ _).alloc (Nat.le_refl _) _
              have XA13 := Lib.hid (XC12.out.trans (hb.mono XC12.out.size))
              replace HGa := Lib.hid (HGa.out.on hb)
              have hbB := hb.mono (Nat.le_trans HBW.out XC12.out.size)
              replace HOb := Lib.hid (HOb.out.below hbB)
              replace HOa := Lib.hid (HOa.out.below hbB)
              clear hbB
              have HGb : Hid (PrimAt (wc12.alloc (.cells #[.int .i64 0, .string ⟨#[]⟩, .string ⟨#[]⟩, .int .i64 0, .slice none 0 0, .slice none 0 0] 33)) wc12.heap.size ⟨0, ⟨#[]⟩, ⟨#[]⟩, 0, none, 0, [], none, 0, []⟩) := PrimAt.new_ wc12 ⟨0, ⟨#[]⟩, ⟨#[]⟩, 0, none, 0, [], none, 0, []⟩
              have HLb : Hid (wr.heap.size ≤ wc12.heap.size) := XC12.out.size
              clear hb
              go_simp
              refine hK.out _ _ (HKS.out _ XA13.out) (fun hHeld10 => ?_)
              clear hK K hHeld5
              try simp only [Act.put, List.setIfInBounds_toArray, List.set_cons_zero, List.set_cons_succ]
              generalize hwn : (wc12.alloc (.cells #[.int .i64 0, .string ⟨#[]⟩, .string ⟨#[]⟩, .int .i64 0, .slice none 0 0, .slice none 0 0] 33)) = wa13 at *
              clear hwn
              refine wpAnyH_ready (rs := [12]) (by kernel_rfl) (by simp) ?_
              refine AllReadyH.cons rfl (fun K hK => ?_) AllReadyH.nil
              have m0 := HGb.out.c0
              have mf0 := HGb.out.fz 0
              have m1 := HGb.out.c1
              have mf1 := HGb.out.fz 1
              have m2 := HGb.out.c2
              have mf2 := HGb.out.fz 2
              have m3 := HGb.out.c3
              have mf3 := HGb.out.fz 3
              have m4 := HGb.out.c4
              have mf4 := HGb.out.fz 4
              have m5 := HGb.out.c5
              have mf5 := HGb.out.fz 5
              have g1 : wa13.grownBy ((((((wa13.setCell ⟨wc12.heap.size, 0, none⟩ (.int .i64 b.kind)).setCell ⟨wc12.heap.size, 1, none⟩ (.string b.p)).setCell ⟨wc12.heap.size, 2, none⟩ (.string b.dst)).setCell ⟨wc12.heap.size, 3, none⟩ (.int .i64 b.at_)).setCell ⟨wc12.heap.size, 4, none⟩ (.slice b.a1 b.old.length b.c1)).setCell ⟨wc12.heap.size, 5, none⟩ (.slice b.a2 b.new.length b.c2)) (some wc12.heap.size) := setPrim_grown wa13 wc12.heap.size b
              have hbs : Below wr.heap.size wr ((((((wa13.setCell ⟨wc12.heap.size, 0, none⟩ (.int .i64 b.kind)).setCell ⟨wc12.heap.size, 1, none⟩ (.string b.p)).setCell ⟨wc12.heap.size, 2, none⟩ (.string b.dst)).setCell ⟨wc12.heap.size, 3, none⟩ (.int .i64 b.at_)).setCell ⟨wc12.heap.size, 4, none⟩ (.slice b.a1 b.old.length b.c1)).setCell ⟨wc12.heap.size, 5, none⟩ (.slice b.a2 b.new.length b.c2)) := below_prim b XA13.out HLb.out XA13.out.size
              have hB1 : Below B wa13 ((((((wa13.setCell ⟨wc12.heap.size, 0, none⟩ (.int .i64 b.kind)).setCell ⟨wc12.heap.size, 1, none⟩ (.string b.p)).setCell ⟨wc12.heap.size, 2, none⟩ (.string b.dst)).setCell ⟨wc12.heap.size, 3, none⟩ (.int .i64 b.at_)).setCell ⟨wc12.heap.size, 4, none⟩ (.slice b.a1 b.old.length b.c1)).setCell ⟨wc12.heap.size, 5, none⟩ (.slice b.a2 b.new.length b.c2)) := below_prim b (Below.refl B wa13) (Nat.le_trans HBW.out HLb.out) (Nat.le_trans HBW.out XA13.out.size)
              have hPb : PrimAt ((((((wa13.setCell ⟨wc12.heap.size, 0, none⟩ (.int .i64 b.kind)).setCell ⟨wc12.heap.size, 1, none⟩ (.string b.p)).setCell ⟨wc12.heap.size, 2, none⟩ (.string b.dst)).setCell ⟨wc12.heap.size, 3, none⟩ (.int .i64 b.at_)).setCell ⟨wc12.heap.size, 4, none⟩ (.slice b.a1 b.old.length b.c1)).setCell ⟨wc12.heap.size, 5, none⟩ (.slice b.a2 b.new.length b.c2)) (wc12.heap.size) b := setPrim_at HGb.out b
              have hPa : PrimAt ((((((wa13.setCell ⟨wc12.heap.size, 0, none⟩ (.int .i64 b.kind)).setCell ⟨wc12.heap.size, 1, none⟩ (.string b.p)).setCell ⟨wc12.heap.size, 2, none⟩ (.string b.dst)).setCell ⟨wc12.heap.size, 3, none⟩ (.int .i64 b.at_)).setCell ⟨wc12.heap.size, 4, none⟩ (.slice b.a1 b.old.length b.c1)).setCell ⟨wc12.heap.size, 5, none⟩ (.slice b.a2 b.new.length b.c2)) (wD.heap.size) ⟨0, ⟨#[]⟩, ⟨#[]⟩, 0, none, 0, [], none, 0, []⟩ := HGa.out.grown g1 (by simpa using HNE.out)
              have XBs := Lib.hid hbs
              have HPb := Lib.hid hPb
              replace HGa := Lib.hid hPa
              replace HOb := Lib.hid (HOb.out.below hB1)
              replace HOa := Lib.hid (HOa.out.below hB1)
              clear g1 hbs hB1 hPb hPa HGb
              go_simp
              refine hK.out _ _ (HKS.out _ XBs.out) (fun hHeld12 => ?_)
              clear hK K hHeld10 m0 mf0 m1 mf1 m2 mf2 m3 mf3 m4 mf4 m5 mf5
              try simp only [Act.put, List.setIfInBounds_toArray, List.set_cons_zero, List.set_cons_succ]
              generalize hwn : ((((((wa13.setCell ⟨wc12.heap.size, 0, none⟩ (.int .i64 b.kind)).setCell ⟨wc12.heap.size, 1, none⟩ (.string b.p)).setCell ⟨wc12.heap.size, 2, none⟩ (.string b.dst)).setCell ⟨wc12.heap.size, 3, none⟩ (.int .i64 b.at_)).setCell ⟨wc12.heap.size, 4, none⟩ (.slice b.a1 b.old.length b.c1)).setCell ⟨wc12.heap.size, 5, none⟩ (.slice b.a2 b.new.length b.c2)) = ws at *
              clear hwn
              refine wpAnyH_ready (rs := [13]) (by kernel_rfl) (by simp) ?_
              refine AllReadyH.cons rfl (fun K hK => ?_) AllReadyH.nil
              have m0 := HGa.out.c0
              have mf0 := HGa.out.fz 0
              have m1 := HGa.out.c1
              have mf1 := HGa.out.fz 1
              have m2 := HGa.out.c2
              have mf2 := HGa.out.fz 2
              have m3 := HGa.out.c3
              have mf3 := HGa.out.fz 3
              have m4 := HGa.out.c4
              have mf4 := HGa.out.fz 4
              have m5 := HGa.out.c5
              have mf5 := HGa.out.fz 5
              have g1 : ws.grownBy ((((((ws.setCell ⟨wD.heap.size, 0, none⟩ (.int .i64 a.kind)).setCell ⟨wD.heap.size, 1, none⟩ (.string a.p)).setCell ⟨wD.heap.size, 2, none⟩ (.string a.dst)).setCell ⟨wD.heap.size, 3, none⟩ (.int .i64 a.at_)).setCell ⟨wD.heap.size, 4, none⟩ (.slice a.a1 a.old.length a.c1)).setCell ⟨wD.heap.size, 5, none⟩ (.slice a.a2 a.new.length a.c2)) (some wD.heap.size) := setPrim_grown ws wD.heap.size a
              have hbs : Below wr.heap.size wr ((((((ws.setCell ⟨wD.heap.size, 0, none⟩ (.int .i64 a.kind)).setCell ⟨wD.heap.size, 1, none⟩ (.string a.p)).setCell ⟨wD.heap.size, 2, none⟩ (.string a.dst)).setCell ⟨wD.heap.size, 3, none⟩ (.int .i64 a.at_)).setCell ⟨wD.heap.size, 4, none⟩ (.slice a.a1 a.old.length a.c1)).setCell ⟨wD.heap.size, 5, none⟩ (.slice a.a2 a.new.length a.c2)) := below_prim a XBs.out HLa.out XBs.out.size
              have hB1 : Below B ws ((((((ws.setCell ⟨wD.heap.size, 0, none⟩ (.int .i64 a.kind)).setCell ⟨wD.heap.size, 1, none⟩ (.string a.p)).setCell ⟨wD.heap.size, 2, none⟩ (.string a.dst)).setCell ⟨wD.heap.size, 3, none⟩ (.int .i64 a.at_)).setCell ⟨wD.heap.size, 4, none⟩ (.slice a.a1 a.old.length a.c1)).setCell ⟨wD.heap.size, 5, none⟩ (.slice a.a2 a.new.length a.c2)) := below_prim a (Below.refl B ws) (Nat.le_trans HBW.out HLa.out) (Nat.le_trans HBW.out XBs.out.size)
              have hPa : PrimAt ((((((ws.setCell ⟨wD.heap.size, 0, none⟩ (.int .i64 a.kind)).setCell ⟨wD.heap.size, 1, none⟩ (.string a.p)).setCell ⟨wD.heap.size, 2, none⟩ (.string a.dst)).setCell ⟨wD.heap.size, 3, none⟩ (.int .i64 a.at_)).setCell ⟨wD.heap.size, 4, none⟩ (.slice a.a1 a.old.length a.c1)).setCell ⟨wD.heap.size, 5, none⟩ (.slice a.a2 a.new.length a.c2)) (wD.heap.size) a := setPrim_at HGa.out a
              have hPb : PrimAt ((((((ws.setCell ⟨wD.heap.size, 0, none⟩ (.int .i64 a.kind)).setCell ⟨wD.heap.size, 1, none⟩ (.string a.p)).setCell ⟨wD.heap.size, 2, none⟩ (.string a.dst)).setCell ⟨wD.heap.size, 3, none⟩ (.int .i64 a.at_)).setCell ⟨wD.heap.size, 4, none⟩ (.slice a.a1 a.old.length a.c1)).setCell ⟨wD.heap.size, 5, none⟩ (.slice a.a2 a.new.length a.c2)) (wc12.heap.size) b := HPb.out.grown g1 (by simpa using Ne.symm HNE.out)
              have XBt := Lib.hid hbs
              replace HPb := Lib.hid hPb
              have HPa := Lib.hid hPa
              replace HOb := Lib.hid (HOb.out.below hB1)
              replace HOa := Lib.hid (HOa.out.below hB1)
              clear g1 hbs hB1 hPb hPa HGa
              go_simp
              refine hK.out _ _ (HKS.out _ XBt.out) (fun hHeld13 => ?_)
              clear hK K hHeld12 m0 mf0 m1 mf1 m2 mf2 m3 mf3 m4 mf4 m5 mf5
              try simp only [Act.put, List.setIfInBounds_toArray, List.set_cons_zero, List.set_cons_succ]
              generalize hwn : ((((((ws.setCell ⟨wD.heap.size, 0, none⟩ (.int .i64 a.kind)).setCell ⟨wD.heap.size, 1, none⟩ (.string a.p)).setCell ⟨wD.heap.size, 2, none⟩ (.string a.dst)).setCell ⟨wD.heap.size, 3, none⟩ (.int .i64 a.at_)).setCell ⟨wD.heap.size, 4, none⟩ (.slice a.a1 a.old.length a.c1)).setCell ⟨wD.heap.size, 5, none⟩ (.slice a.a2 a.new.length a.c2)) = wt at *
              clear hwn
              refine wpAnyH_take (i := 14) (oi := { dst := some 11, op := _, type := _, pos := _, after := _, guard := _ }) (v := .int .i64 er) rfl (by kernel_rfl) (by kernel_rfl) (by kernel_rfl) (fun _ _ _ h => h) (Or.inl ⟨by rfl, fun w' hSw => ?_⟩) (by assumption) ?_
              · ((try dsimp only at hSw); go_simp)
              try simp only [Act.put, List.setIfInBounds_toArray, List.set_cons_zero, List.set_cons_succ]
              refine wpAnyH_done (by kernel_rfl) ?_ _
              refine NoPanic.normal ?_
              go_wp2_with fail
              go_meet
              case rel => exact ⟨wc12.heap.size, wD.heap.size, b, a, er, rfl, rfl, rfl, ⟨HPb.out, HPa.out, HOb.out, HOa.out, HKP.out, HLb.out, HLa.out, XBt.out⟩⟩
          · have HNE : Hid (wa11.heap.size ≠ wD.heap.size) := by show _ ≠ _; have h1 := HGa.out.lt; omega
            have hb : Below wa11.heap.size wa11 (wa11.alloc (.cells #[.int .i64 0, .string ⟨#[]⟩, .string ⟨#[]⟩, .int .i64 0, .slice none 0 0, .slice none 0 0] 33)) := (Below.refl _ _).alloc (Nat.le_refl _) _
            have XA14 := Lib.hid (XA11.out.trans (hb.mono XA11.out.size))
            replace HGa := Lib.hid (HGa.out.on hb)
            have HGb : Hid (PrimAt (wa11.alloc (.cells #[.int .i64 0, .string ⟨#[]⟩, .string ⟨#[]⟩, .int .i64 0, .slice none 0 0, .slice none 0 0] 33)) wa11.heap.size ⟨0, ⟨#[]⟩, ⟨#[]⟩, 0, none, 0, [], none, 0, []⟩) := PrimAt.new_ wa11 ⟨0, ⟨#[]⟩, ⟨#[]⟩, 0, none, 0, [], none, 0, []⟩
            have HLb : Hid (wr.heap.size ≤ wa11.heap.size) := XA11.out.size
            clear hb
            go_simp
            refine hK.out _ _ (HKS.out _ XA14.out) (fun hHeld10 => ?_)
            clear hK K hHeld11
            try simp only [Act.put, List.setIfInBounds_toArray, List.set_cons_zero, List.set_cons_succ]
            generalize hwn : (wa11.alloc (.cells #[.int .i64 0, .string ⟨#[]⟩, .string ⟨#[]⟩, .int .i64 0, .slice none 0 0, .slice none 0 0] 33)) = wa14 at *
            clear hwn
            refine wpAnyH_ready (rs := [5]) (by kernel_rfl) (by simp) ?_
            refine AllReadyH.cons rfl (fun K hK => ?_) AllReadyH.nil
            · go_simp
              go_at_call 26
              refine (CP.out _ XA14.out).mono ?_
              rintro e wc15 ⟨b, a, er, rfl, hp, hb⟩
              have XC15 := Lib.hid (XA14.out.trans (hb.mono XA14.out.size))
              have HOb := Lib.hid hp.out.1
              have HOa := Lib.hid hp.out.2.1
              have HKP := Lib.hid hp.out.2.2
              replace HGa := Lib.hid (HGa.out.on hb)
              replace HGb := Lib.hid (HGb.out.on hb)
              clear hb hp
              refine hK.out _ _ (HKS.out _ XC15.out) (fun hHeld5 => ?_)
              clear hK K hHeld10
              try simp only [Act.put, List.setIfInBounds_toArray, List.set_cons_zero, List.set_cons_succ]
              refine wpAnyH_take (i := 6) (oi := { dst := some 18, op := _, type := _, pos := _, after := _, guard := _ }) (v := .tuple #[.agg #[.int .i64 b.kind, .string b.p, .string b.dst, .int .i64 b.at_, .slice b.a1 b.old.length b.c1, .slice b.a2 b.new.length b.c2], .agg #[.int .i64 a.kind, .string a.p, .string a.dst, .int .i64 a.at_, .slice a.a1 a.old.length a.c1, .slice a.a2 a.new.length a.c2], .int .i64 er]) rfl (by kernel_rfl) (by kernel_rfl) (by kernel_rfl) (fun _ _ _ h => h) (Or.inl ⟨by rfl, fun w' hSw => ?_⟩) (by assumption) ?_
              · ((try dsimp only at hSw); go_simp)
              try simp only [Act.put, List.setIfInBounds_toArray, List.set_cons_zero, List.set_cons_succ]
              refine wpAnyH_take (i := 7) (oi := { dst := some 25, op := _, type := _, pos := _, after := _, guard := _ }) (v := .agg #[.int .i64 b.kind, .string b.p, .string b.dst, .int .i64 b.at_, .slice b.a1 b.old.length b.c1, .slice b.a2 b.new.length b.c2]) rfl (by kernel_rfl) (by kernel_rfl) (by kernel_rfl) (fun _ _ _ h => h) (Or.inl ⟨by rfl, fun w' hSw => ?_⟩) (by assumption) ?_
              · ((try dsimp only at hSw); go_simp)
              try simp only [Act.put, List.setIfInBounds_toArray, List.set_cons_zero, List.set_cons_succ]
              refine wpAnyH_take (i := 8) (oi := { dst := some 26, op := _, type := _, pos := _, after := _, guard := _ }) (v := .agg #[.int .i64 a.kind, .string a.p, .string a.dst, .int .i64 a.at_, .slice a.a1 a.old.length a.c1, .slice a.a2 a.new.length a.c2]) rfl (by kernel_rfl) (by kernel_rfl) (by kernel_rfl) (fun _ _ _ h => h) (Or.inl ⟨by rfl, fun w' hSw => ?_⟩) (by assumption) ?_
              · ((try dsimp only at hSw); go_simp)
              try simp only [Act.put, List.setIfInBounds_toArray, List.set_cons_zero, List.set_cons_succ]
              refine wpAnyH_take (i := 9) (oi := { dst := some 27, op := _, type := _, pos := _, after := _, guard := _ }) (v := .int .i64 er) rfl (by kernel_rfl) (by kernel_rfl) (by kernel_rfl) (fun _ _ _ h => h) (Or.inl ⟨by rfl, fun w' hSw => ?_⟩) (by assumption) ?_
              · ((try dsimp only at hSw); go_simp)
              try simp only [Act.put, List.setIfInBounds_toArray, List.set_cons_zero, List.set_cons_succ]
              refine wpAnyH_ready (rs := [12]) (by kernel_rfl) (by simp) ?_
              refine AllReadyH.cons rfl (fun K hK => ?_) AllReadyH.nil
              have m0 := HGb.out.c0
              have mf0 := HGb.out.fz 0
              have m1 := HGb.out.c1
              have mf1 := HGb.out.fz 1
              have m2 := HGb.out.c2
              have mf2 := HGb.out.fz 2
              have m3 := HGb.out.c3
              have mf3 := HGb.out.fz 3
              have m4 := HGb.out.c4
              have mf4 := HGb.out.fz 4
              have m5 := HGb.out.c5
              have mf5 := HGb.out.fz 5
              have g1 : wc15.grownBy ((((((wc15.setCell ⟨wa11.heap.size, 0, none⟩ (.int .i64 b.kind)).setCell ⟨wa11.heap.size, 1, none⟩ (.string b.p)).setCell ⟨wa11.heap.size, 2, none⟩ (.string b.dst)).setCell ⟨wa11.heap.size, 3, none⟩ (.int .i64 b.at_)).setCell ⟨wa11.heap.size, 4, none⟩ (.slice b.a1 b.old.length b.c1)).setCell ⟨wa11.heap.size, 5, none⟩ (.slice b.a2 b.new.length b.c2)) (some wa11.heap.size) := setPrim_grown wc15 wa11.heap.size b
              have hbs : Below wr.heap.size wr ((((((wc15.setCell ⟨wa11.heap.size, 0, none⟩ (.int .i64 b.kind)).setCell ⟨wa11.heap.size, 1, none⟩ (.string b.p)).setCell ⟨wa11.heap.size, 2, none⟩ (.string b.dst)).setCell ⟨wa11.heap.size, 3, none⟩ (.int .i64 b.at_)).setCell ⟨wa11.heap.size, 4, none⟩ (.slice b.a1 b.old.length b.c1)).setCell ⟨wa11.heap.size, 5, none⟩ (.slice b.a2 b.new.length b.c2)) := below_prim b XC15.out HLb.out XC15.out.size
              have hB1 : Below B wc15 ((((((wc15.setCell ⟨wa11.heap.size, 0, none⟩ (.int .i64 b.kind)).setCell ⟨wa11.heap.size, 1, none⟩ (.string b.p)).setCell ⟨wa11.heap.size, 2, none⟩ (.string b.dst)).setCell ⟨wa11.heap.size, 3, none⟩ (.int .i64 b.at_)).setCell ⟨wa11.heap.size, 4, none⟩ (.slice b.a1 b.old.length b.c1)).setCell ⟨wa11.heap.size, 5, none⟩ (.slice b.a2 b.new.length b.c2)) := below_prim b (Below.refl B wc15) (Nat.le_trans HBW.out HLb.out) (Nat.le_trans HBW.out XC15.out.size)
              have hPb : PrimAt ((((((wc15.setCell ⟨wa11.heap.size, 0, none⟩ (.int .i64 b.kind)).setCell ⟨wa11.heap.size, 1, none⟩ (.string b.p)).setCell ⟨wa11.heap.size, 2, none⟩ (.string b.dst)).setCell ⟨wa11.heap.size, 3, none⟩ (.int .i64 b.at_)).setCell ⟨wa11.heap.size, 4, none⟩ (.slice b.a1 b.old.length b.c1)).setCell ⟨wa11.heap.size, 5, none⟩ (.slice b.a2 b.new.length b.c2)) (wa11.heap.size) b := setPrim_at HGb.out b
              have hPa : PrimAt ((((((wc15.setCell ⟨wa11.heap.size, 0, none⟩ (.int .i64 b.kind)).setCell ⟨wa11.heap.size, 1, none⟩ (.string b.p)).setCell ⟨wa11.heap.size, 2, none⟩ (.string b.dst)).setCell ⟨wa11.heap.size, 3, none⟩ (.int .i64 b.at_)).setCell ⟨wa11.heap.size, 4, none⟩ (.slice b.a1 b.old.length b.c1)).setCell ⟨wa11.heap.size, 5, none⟩ (.slice b.a2 b.new.length b.c2)) (wD.heap.size) ⟨0, ⟨#[]⟩, ⟨#[]⟩, 0, none, 0, [], none, 0, []⟩ := HGa.out.grown g1 (by simpa using HNE.out)
              have XBs := Lib.hid hbs
              have HPb := Lib.hid hPb
              replace HGa := Lib.hid hPa
              replace HOb := Lib.hid (HOb.out.below hB1)
              replace HOa := Lib.hid (HOa.out.below hB1)
              clear g1 hbs hB1 hPb hPa HGb
              go_simp
              refine hK.out _ _ (HKS.out _ XBs.out) (fun hHeld12 => ?_)
              clear hK K hHeld5 m0 mf0 m1 mf1 m2 mf2 m3 mf3 m4 mf4 m5 mf5
              try simp only [Act.put, List.setIfInBounds_toArray, List.set_cons_zero, List.set_cons_succ]
              generalize hwn : ((((((wc15.setCell ⟨wa11.heap.size, 0, none⟩ (.int .i64 b.kind)).setCell ⟨wa11.heap.size, 1, none⟩ (.string b.p)).setCell ⟨wa11.heap.size, 2, none⟩ (.string b.dst)).setCell ⟨wa11.heap.size, 3, none⟩ (.int .i64 b.at_)).setCell ⟨wa11.heap.size, 4, none⟩ (.slice b.a1 b.old.length b.c1)).setCell ⟨wa11.heap.size, 5, none⟩ (.slice b.a2 b.new.length b.c2)) = ws at *
              clear hwn
              refine wpAnyH_ready (rs := [13]) (by kernel_rfl) (by simp) ?_
              refine AllReadyH.cons rfl (fun K hK => ?_) AllReadyH.nil
              have m0 := HGa.out.c0
              have mf0 := HGa.out.fz 0
              have m1 := HGa.out.c1
              have mf1 := HGa.out.fz 1
              have m2 := HGa.out.c2
              have mf2 := HGa.out.fz 2
              have m3 := HGa.out.c3
              have mf3 := HGa.out.fz 3
              have m4 := HGa.out.c4
              have mf4 := HGa.out.fz 4
              have m5 := HGa.out.c5
              have mf5 := HGa.out.fz 5
              have g1 : ws.grownBy ((((((ws.setCell ⟨wD.heap.size, 0, none⟩ (.int .i64 a.kind)).setCell ⟨wD.heap.size, 1, none⟩ (.string a.p)).setCell ⟨wD.heap.size, 2, none⟩ (.string a.dst)).setCell ⟨wD.heap.size, 3, none⟩ (.int .i64 a.at_)).setCell ⟨wD.heap.size, 4, none⟩ (.slice a.a1 a.old.length a.c1)).setCell ⟨wD.heap.size, 5, none⟩ (.slice a.a2 a.new.length a.c2)) (some wD.heap.size) := setPrim_grown ws wD.heap.size a
              have hbs : Below wr.heap.size wr ((((((ws.setCell ⟨wD.heap.size, 0, none⟩ (.int .i64 a.kind)).setCell ⟨wD.heap.size, 1, none⟩ (.string a.p)).setCell ⟨wD.heap.size, 2, none⟩ (.string a.dst)).setCell ⟨wD.heap.size, 3, none⟩ (.int .i64 a.at_)).setCell ⟨wD.heap.size, 4, none⟩ (.slice a.a1 a.old.length a.c1)).setCell ⟨wD.heap.size, 5, none⟩ (.slice a.a2 a.new.length a.c2)) := below_prim a XBs.out HLa.out XBs.out.size
              have hB1 : Below B ws ((((((ws.setCell ⟨wD.heap.size, 0, none⟩ (.int .i64 a.kind)).setCell ⟨wD.heap.size, 1, none⟩ (.string a.p)).setCell ⟨wD.heap.size, 2, none⟩ (.string a.dst)).setCell ⟨wD.heap.size, 3, none⟩ (.int .i64 a.at_)).setCell ⟨wD.heap.size, 4, none⟩ (.slice a.a1 a.old.length a.c1)).setCell ⟨wD.heap.size, 5, none⟩ (.slice a.a2 a.new.length a.c2)) := below_prim a (Below.refl B ws) (Nat.le_trans HBW.out HLa.out) (Nat.le_trans HBW.out XBs.out.size)
              have hPa : PrimAt ((((((ws.setCell ⟨wD.heap.size, 0, none⟩ (.int .i64 a.kind)).setCell ⟨wD.heap.size, 1, none⟩ (.string a.p)).setCell ⟨wD.heap.size, 2, none⟩ (.string a.dst)).setCell ⟨wD.heap.size, 3, none⟩ (.int .i64 a.at_)).setCell ⟨wD.heap.size, 4, none⟩ (.slice a.a1 a.old.length a.c1)).setCell ⟨wD.heap.size, 5, none⟩ (.slice a.a2 a.new.length a.c2)) (wD.heap.size) a := setPrim_at HGa.out a
              have hPb : PrimAt ((((((ws.setCell ⟨wD.heap.size, 0, none⟩ (.int .i64 a.kind)).setCell ⟨wD.heap.size, 1, none⟩ (.string a.p)).setCell ⟨wD.heap.size, 2, none⟩ (.string a.dst)).setCell ⟨wD.heap.size, 3, none⟩ (.int .i64 a.at_)).setCell ⟨wD.heap.size, 4, none⟩ (.slice a.a1 a.old.length a.c1)).setCell ⟨wD.heap.size, 5, none⟩ (.slice a.a2 a.new.length a.c2)) (wa11.heap.size) b := HPb.out.grown g1 (by simpa using Ne.symm HNE.out)
              have XBt := Lib.hid hbs
              replace HPb := Lib.hid hPb
              have HPa := Lib.hid hPa
              replace HOb := Lib.hid (HOb.out.below hB1)
              replace HOa := Lib.hid (HOa.out.below hB1)
              clear g1 hbs hB1 hPb hPa HGa
              go_simp
              refine hK.out _ _ (HKS.out _ XBt.out) (fun hHeld13 => ?_)
              clear hK K hHeld12 m0 mf0 m1 mf1 m2 mf2 m3 mf3 m4 mf4 m5 mf5
              try simp only [Act.put, List.setIfInBounds_toArray, List.set_cons_zero, List.set_cons_succ]
              generalize hwn : ((((((ws.setCell ⟨wD.heap.size, 0, none⟩ (.int .i64 a.kind)).setCell ⟨wD.heap.size, 1, none⟩ (.string a.p)).setCell ⟨wD.heap.size, 2, none⟩ (.string a.dst)).setCell ⟨wD.heap.size, 3, none⟩ (.int .i64 a.at_)).setCell ⟨wD.heap.size, 4, none⟩ (.slice a.a1 a.old.length a.c1)).setCell ⟨wD.heap.size, 5, none⟩ (.slice a.a2 a.new.length a.c2)) = wt at *
              clear hwn
              refine wpAnyH_take (i := 14) (oi := { dst := some 11, op := _, type := _, pos := _, after := _, guard := _ }) (v := .int .i64 er) rfl (by kernel_rfl) (by kernel_rfl) (by kernel_rfl) (fun _ _ _ h => h) (Or.inl ⟨by rfl, fun w' hSw => ?_⟩) (by assumption) ?_
              · ((try dsimp only at hSw); go_simp)
              try simp only [Act.put, List.setIfInBounds_toArray, List.set_cons_zero, List.set_cons_succ]
              refine wpAnyH_done (by kernel_rfl) ?_ _
              refine NoPanic.normal ?_
              go_wp2_with fail
              go_meet
              case rel => exact ⟨wa11.heap.size, wD.heap.size, b, a, er, rfl, rfl, rfl, ⟨HPb.out, HPa.out, HOb.out, HOa.out, HKP.out, HLb.out, HLa.out, XBt.out⟩⟩
      case rest =>
        obtain ⟨gb, ga, b, a, er, rfl, rfl, rfl, HQ⟩ := hcut
        have HPc := Lib.hid (HP.out.on HBW.out HQ.out.2.2.2.2.2.2.2)
        have hown : ∀ q, (Value.slice A1 n1 c1).ownBlock = some q → q ≠ ga := fun q e => by
          have h1 := (World.ownsRow.lt HP.out.own q e).2
          have h2 := HQ.out.2.2.2.2.2.2.1
          omega
        have HNA := Lib.hid hown
        have HLA : Hid (LtK a.key) := (pair_lt HP.out.lt HLY.out HQ.out.2.2.2.2.1).2
        clear hown
        by_cases he : er = 0
        · subst he
          have HCN : Hid (consP (pkeys (rs ++ [b])) (pastP a.key ((pkeys l).drop (k + 1))) = R9 ∧ (rs ++ [b]).length ≤ k + 1) := by
            refine ⟨?_, by rw [List.length_append]; have := HC2.out.2; simp only [List.length_cons, List.length_nil]; omega⟩
            rw [← HC2.out.1, cons_ok HQ.out.2.2.2.2.1]
            simp [pkeys]
          have HB0 := Lib.hid HPc.out.below
          have hrs : rs.length ≤ 1000 := by have := HC2.out.2; omega
          have HW := Lib.hid (HPc.out.own.kept ((Below.refl _ _).alloc (Nat.le_refl _) (.cells #[.int .i64 b.kind, .string b.p, .string b.dst, .int .i64 b.at_, .slice b.a1 b.old.length b.c1, .slice b.a2 b.new.length b.c2] 33)))
          have HPB := Lib.hid (PrimAt.new_ wc b)
          have hn1 : n1 = rs.length := by
            rcases HPc.out.own.2 with ⟨e, h0⟩ | ⟨g, cap, cur, e, _⟩
            · simp only [Value.slice.injEq] at e
              omega
            · simp only [Value.slice.injEq] at e
              exact e.2.1
          subst hn1
          have hsz : w.heap.size + 1 + 1 ≤ wc.heap.size + 1 := by have := HPc.out.pz.lt; omega
          have HST := Lib.hid (fun g2 c2 w2 ho hg => HPc.out.step (w2 := w2) (g2 := g2) (c2 := c2) HBW0.out HQ.out.2.1 HNA.out HQ.out.2.2.2.1 HQ.out.2.2.1 HLA.out ho hg)
          have b0 := HQ.out.1.c0
          have b1 := HQ.out.1.c1
          have b2 := HQ.out.1.c2
          have b3 := HQ.out.1.c3
          have b4 := HQ.out.1.c4
          have b5 := HQ.out.1.c5
          go_wp2_with (at_builtin; refine wpList_append_prim rfl _ _ rfl (w.heap.size + 1 + 1) (.slice A1 rs.length c1) rs rfl HW.out b wc.heap.size rfl HPB.out (by rw [World.size_alloc]; exact hsz) (by omega) _ rfl ?_)
          intro g2 c2 w2 ho2 hg2 _
          obtain ⟨HN, hp2, ha2⟩ := HST.out g2 c2 w2 ho2 hg2
          have HNX := Lib.hid HN
          have e0 := ha2.c0
          have f0 := hp2.c0
          have ff0 := hp2.fz 0
          have e1 := ha2.c1
          have f1 := hp2.c1
          have ff1 := hp2.fz 1
          have e2 := ha2.c2
          have f2 := hp2.c2
          have ff2 := hp2.fz 2
          have e3 := ha2.c3
          have f3 := hp2.c3
          have ff3 := hp2.fz 3
          have e4 := ha2.c4
          have f4 := hp2.c4
          have ff4 := hp2.fz 4
          have e5 := ha2.c5
          have f5 := hp2.c5
          have ff5 := hp2.fz 5
          clear HN hp2 ha2 ho2 hg2 b0 b1 b2 b3 b4 b5 HST HW HPB HPc HQ HP HC2 HKS CP
          go_wp2
          go_roundw
          case rel =>
            first
            | exact ⟨k + 1, _, _, _, rs ++ [b], a, rfl, by go_num, by omega, HNX.out, HCN.out⟩
            | ((repeat apply Exists.intro); exact ⟨⟨rfl, by go_num, by omega, HNX.out, HCN.out⟩, rfl⟩)
          case measure => simp [intOf]; omega
        · have ke : (er != 0) = true := by simpa using he
          have hR : R9 = (er, [], zeroP) := by rw [← HC2.out.1, cons_err HQ.out.2.2.2.2.1 he]
          have hset := setPrim_at HPc.out.pz ⟨0, ⟨#[]⟩, ⟨#[]⟩, 0, none, 0, [], none, 0, []⟩
          have HT2 := Lib.hid hset
          have HF : Hid (PastB w B R9 (.returned (.tuple #[.slice none 0 0, .agg #[.int .i64 0, .string ⟨#[]⟩, .string ⟨#[]⟩, .int .i64 0, .slice none 0 0, .slice none 0 0], .int .i64 er])) (setPrim wc (w.heap.size + 1) ⟨0, ⟨#[]⟩, ⟨#[]⟩, 0, none, 0, [], none, 0, []⟩)) :=
            ⟨none, 0, 0, [], ⟨0, ⟨#[]⟩, ⟨#[]⟩, 0, none, 0, [], none, 0, []⟩, er, rfl, ⟨rfl, Ps.nil, ⟨fun _ => rfl, Nat.le_refl _⟩, (fun r hr => by cases hr), zero_okB _ _, hR⟩, below_prim _ HPc.out.below (by omega) HPc.out.below.size⟩
          have f0 := HPc.out.pz.c0
          have ff0 := HPc.out.pz.fz 0
          have f1 := HPc.out.pz.c1
          have ff1 := HPc.out.pz.fz 1
          have f2 := HPc.out.pz.c2
          have ff2 := HPc.out.pz.fz 2
          have f3 := HPc.out.pz.c3
          have ff3 := HPc.out.pz.fz 3
          have f4 := HPc.out.pz.c4
          have ff4 := HPc.out.pz.fz 4
          have f5 := HPc.out.pz.c5
          have ff5 := HPc.out.pz.fz 5
          clear he hR hset HQ HP HC2 HKS CP HNA HLA
          go_upto_region 7 with (fail)
          go_wp
          (try simp only [Exit.inBlock, Exit.then])
          refine bodyPost_ret (ret_past rfl _ _ _ ⟨0, ⟨#[]⟩, ⟨#[]⟩, 0, none, 0, [], none, 0, []⟩ _ _ rfl rfl rfl HT2.out) rfl ?_
          exact HF.out
    · have hke : k = l.length := by omega
      subst hke
      have hlt2 : ¬ (l.length : Int) < (l.length : Int) := by omega
      have hR : R9 = (0, pkeys rs, x.key) := by
        rw [← HC.out.1, List.drop_of_length_le (by rw [pkeys_len]; omega)]
        exact cons_end _ _
      have hset := setPrim_at HP.out.pz x
      have g3 := setPrim_grown wr (w.heap.size + 1) x
      have hws : w.heap.size + 1 < wr.heap.size := HP.out.pz.lt
      have bB : Below B wr (setPrim wr (w.heap.size + 1) x) := below_prim x (Below.refl B wr) (by have := HBW.out; omega) (Nat.le_trans HBW.out HP.out.below.size)
      have hown := HP.out.own.box g3 (by omega)
      obtain ⟨A', c', e, q1, q2⟩ := hown.ps (fun r hr => ((HP.out.oks r hr).below bB).more (by rw [setPrim_size]; exact Nat.le_trans HBW.out HP.out.below.size))
      simp only [Value.slice.injEq] at e
      obtain ⟨rfl, rfl, rfl⟩ := e
      have HT2 := Lib.hid hset.draw
      have hd : Below (setPrim wr (w.heap.size + 1) x).heap.size (setPrim wr (w.heap.size + 1) x) (setPrim wr (w.heap.size + 1) x).drew := (Below.refl _ _).drew
      have hdB : Below B (setPrim wr (w.heap.size + 1) x) (setPrim wr (w.heap.size + 1) x).drew := (Below.refl _ _).drew
      have HF : Hid (PastB w B R9 (.returned (.tuple #[.slice A1 rs.length c1, .agg #[.int .i64 x.kind, .string x.p, .string x.dst, .int .i64 x.at_, .slice x.a1 x.old.length x.c1, .slice x.a2 x.new.length x.c2], .int .i64 0])) (setPrim wr (w.heap.size + 1) x).drew) :=
        ⟨A1, rs.length, c1, rs, x, 0, rfl, ⟨rfl, q1.on hd, q2, fun r hr => ((HP.out.oks r hr).below bB).below hdB, (HP.out.xok.below bB).below hdB, hR⟩, (below_prim x HP.out.below (by omega) HP.out.below.size).drew⟩
      have f0 := HP.out.px.c0
      have m0 := HP.out.pz.c0
      have mf0 := HP.out.pz.fz 0
      have f1 := HP.out.px.c1
      have m1 := HP.out.pz.c1
      have mf1 := HP.out.pz.fz 1
      have f2 := HP.out.px.c2
      have m2 := HP.out.pz.c2
      have mf2 := HP.out.pz.fz 2
      have f3 := HP.out.px.c3
      have m3 := HP.out.pz.c3
      have mf3 := HP.out.pz.fz 3
      have f4 := HP.out.px.c4
      have m4 := HP.out.pz.c4
      have mf4 := HP.out.pz.fz 4
      have f5 := HP.out.px.c5
      have m5 := HP.out.pz.c5
      have mf5 := HP.out.pz.fz 5
      clear hR hset g3 hws bB hown q1 q2 hd hdB HP HC
      go_upto_region 10 with (fail)
      go_region
      all_goals
        go_wp
        (try simp only [Exit.inBlock, Exit.then])
        refine bodyPost_ret (ret_past rfl _ _ _ x _ _ rfl rfl rfl HT2.out) rfl ?_
        exact HF.out
end Go.Proofs.YtalabahjfmcnbaaGreatDoor
