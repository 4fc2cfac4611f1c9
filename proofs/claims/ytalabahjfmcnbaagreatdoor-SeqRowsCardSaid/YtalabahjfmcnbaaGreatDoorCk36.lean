/- Words for rows of steps that change places. The reference's Rows of layer 10. -/
import Derived.Laws.Cover1
import Derived.Sort.OwnSorted
import Derived.Deep.RegionHeld3
import Derived.Deep.DrawnRows
import Derived.Deep.RegionLaw
import Derived.BigQuiet
import Derived.Deep.QuietTactic
import Derived.Handy
import Derived.Test.YtalabahjfmcnbaaGreatDoorShelf
import Derived.WalkKit
import Derived.Test.YtalabahjfmcnbaaGreatDoorCk29
import Derived.Test.YtalabahjfmcnbaaGreatDoorCk32
namespace Go.Proofs.YtalabahjfmcnbaaGreatDoor
open Go.RowKit
set_option linter.unusedVariables false

theorem OwnP.lower {w : World} {B C : Nat} {v : Value} {rs : List Pm} (h : OwnP w B v rs) (hC : C ≤ B) : OwnP w C v rs :=
  ⟨h.1, h.2.elim .inl fun ⟨g, cap, cur, he, hb, r⟩ => .inr ⟨g, cap, cur, he, Nat.le_trans hC hb, r⟩⟩
/-- A row, a step and an error come back. -/
def PastW (w : World) (res : Int × List Pk × Pk) (e : Ending) (w' : World) : Prop :=
  ∃ (A : Option Addr) (n c : Nat) (rs : List Pm) (z : Pm) (er : Int), e = .returned (.tuple #[.slice A n c, .agg #[.int .i64 z.kind, .string z.p, .string z.dst, .int .i64 z.at_, .slice z.a1 z.old.length z.c1, .slice z.a2 z.new.length z.c2], .int .i64 er]) ∧ Hid (RowW w' A n c rs ∧ z.Ok w' w'.heap.size ∧ res = (er, pkeys rs, z.key)) ∧ Below w.heap.size w w'
end Go.Proofs.YtalabahjfmcnbaaGreatDoor
namespace Go.Proofs.YtalabahjfmcnbaaGreatDoor
open Go.RowKit
set_option linter.unusedVariables false

/-- One step of a row passes the other row. -/
def stepP (p : Pk) (s : Int × List Pk × List Pk) : Int × List Pk × List Pk := if s.1 ≠ 0 then (s.1, [], []) else match pastP p s.2.1 with
  | (m, x, q) => if m ≠ 0 then (m, [], []) else (0, x, q :: s.2.2)
theorem rows_fold : ∀ (a b : List Pk), a.foldr stepP (0, b, []) = rowsP a b
  | [], b => rfl
  | p :: a, b => by
    rw [List.foldr_cons, rows_fold a b]
    unfold stepP
    conv => rhs; unfold rowsP
theorem fold_err : ∀ (a : List Pk) (n : Int), n ≠ 0 → a.foldr stepP (n, [], []) = (n, [], [])
  | [], n, h => rfl
  | p :: a, n, h => by
    rw [List.foldr_cons, fold_err a n h]
    unfold stepP
    simp [h]
/-- What Rows hands back. -/
def RowsB (w : World) (B : Nat) (res : Int × List Pk × List Pk) (e : Ending) (w' : World) : Prop :=
  ∃ (A : Option Addr) (n c : Nat) (rs : List Pm) (A2 : Option Addr) (n2 c2 : Nat) (ss : List Pm) (er : Int), e = .returned (.tuple #[.slice A n c, .slice A2 n2 c2, .int .i64 er]) ∧ Hid (RowB w' B A n c rs ∧ RowB w' B A2 n2 c2 ss ∧ res = (er, pkeys rs, pkeys ss)) ∧ Below w.heap.size w w'
set_option maxHeartbeats 40000000 in
set_option maxRecDepth 100000 in
theorem refrows_any (A : Option Addr) (l : List Pm) (lc : Nat) (A0 : Option Addr) (m0 c0 : Nat) (l0 : List Pm) (w : World) (B : Nat) (hB : B ≤ w.heap.size) (ha : RowB w B A l.length lc l) (hb0 : RowB w B A0 m0 c0 l0) (hl : ∀ y ∈ l, LtK y.key) (hl0 : ∀ y ∈ l0, LtK y.key) (hn : l.length ≤ 500) (hn0 : l0.length ≤ 500) (hT : Tabs w) :
    Calls Tryz.prog 9 #[.slice A l.length lc, .slice A0 m0 c0] w (RowsB w B (rowsP (pkeys l) (pkeys l0))) := by
  obtain ⟨R9, hR9⟩ : ∃ r, rowsP (pkeys l) (pkeys l0) = r := ⟨_, rfl⟩
  have HI0 : Hid (RowB w B A0 m0 c0 l0 ∧ (∀ y ∈ l0, LtK y.key) ∧ l0.length ≤ 500 ∧ ((pkeys l).take l.length).foldr stepP (0, pkeys l0, pkeys []) = R9) := by
    refine ⟨hb0, hl0, hn0, ?_⟩
    rw [← pkeys_len, List.take_length]
    exact (rows_fold _ _).trans hR9
  have HS := Lib.hid ha
  have HL := Lib.hid hl
  have HT := Lib.hid hT
  have HBW := Lib.hid hB
  have HB0 : Hid (Below w.heap.size w w) := Below.refl _ _
  rw [hR9]
  clear hR9 ha hb0 hl hl0 hT hB
  have q1 : IntKind.i64.wrap ((l.length : Int) - 1) = (l.length : Int) - 1 := IntWalk.i64_in _ (by omega)
  go_enter Tryz.func9, Tryz.ntmps9
  go_wp2
  clear q1
  go_loopw [1, 7, 8] (fun bv hv iv wr => ∃ (k : Nat) (A1 : Option Addr) (n1 c1 : Nat) (rs : List Pm) (A2 : Option Addr) (n2 c2 : Nat) (ss : List Pm), bv = .slice A1 n1 c1 ∧ hv = .slice A2 n2 c2 ∧ iv = .int .i64 ((k : Int) - 1) ∧ k ≤ l.length ∧ Hid (RowB wr B A1 n1 c1 rs ∧ (∀ y ∈ rs, LtK y.key) ∧ rs.length ≤ 500 ∧ ((pkeys l).take k).foldr stepP (0, pkeys rs, pkeys ss) = R9) ∧ Hid (RowB wr B A2 n2 c2 ss ∧ ss.length + k ≤ l.length) ∧ Hid (Below w.heap.size w wr)) (fun _ _ iv _ => (intOf iv + 1).toNat)
  case atStart => exact ⟨l.length, A0, m0, c0, l0, none, 0, 0, [], rfl, rfl, rfl, Nat.le_refl _, HI0.out, ⟨RowB.nil _ _, by simp⟩, HB0.out⟩
  case round =>
    clear HI0 HB0
    obtain ⟨k, A1, n1, c1, rs, A2, n2, c2, ss, rfl, rfl, rfl, hk, HI, HJ, HB⟩ := hrel
    rcases Nat.eq_zero_or_pos k with h0 | h0
    · subst h0
      have hR : R9 = (0, pkeys rs, pkeys ss) := HI.out.2.2.2.symm
      have HF : Hid (RowsB w B R9 (.returned (.tuple #[.slice A1 n1 c1, .slice A2 n2 c2, .int .i64 0])) wr) := ⟨A1, n1, c1, rs, A2, n2, c2, ss, 0, rfl, ⟨HI.out.1, HJ.out.1, hR⟩, HB.out⟩
      clear hR HI HJ HB
      go_upto_region 10 with (fail)
      go_wp
      (try simp only [Exit.inBlock, Exit.then])
      refine bodyPost_ret (ret3 rfl _ _ _ _ _ rfl rfl rfl) rfl ?_
      exact HF.out
    · obtain ⟨j, rfl⟩ : ∃ j, k = j + 1 := ⟨k - 1, by omega⟩
      have hlt : j < l.length := by omega
      have hS := (HS.out.on HBW.out HB.out)
      obtain ⟨lb, lo, rfl, _, d0, d1, d2, d3, d4, d5⟩ := hS.at_.get hlt
      obtain ⟨y, hy⟩ : ∃ y, l[j] = y := ⟨_, rfl⟩
      have hyB := hS.ok l[j] (List.getElem_mem _)
      have hyl := HL.out l[j] (List.getElem_mem _)
      have htk : ((pkeys l).take (j + 1)).foldr stepP (0, pkeys rs, pkeys ss) = ((pkeys l).take j).foldr stepP (stepP y.key (0, pkeys rs, pkeys ss)) := by
        have h1 : j < (pkeys l).length := by rw [pkeys_len]; exact hlt
        rw [List.take_succ_eq_append_getElem h1, List.foldr_append]
        simp [pkeys, ← hy]
      rw [hy] at d0 d1 d2 d3 d4 d5 hyB hyl
      have hn1 := HI.out.1.len
      subst hn1
      have hBr : B ≤ wr.heap.size := Nat.le_trans HBW.out HB.out.size
      have hrs := HI.out.2.2.1
      have CP := Lib.hid (refpast_any y A1 rs c1 wr B hBr hyB hyl HI.out.1.at_ HI.out.1.ok HI.out.2.1 (by omega) (Tabs.on HT.out HB.out))
      obtain ⟨er, ox, oq, hpast⟩ : ∃ n o q, pastP y.key (pkeys rs) = (n, o, q) := ⟨_, _, _, rfl⟩
      have hplt := past_lt (pkeys rs) hyl (fun x hx => by
        unfold pkeys at hx
        obtain ⟨r, hr, rfl⟩ := List.mem_map.1 hx
        exact HI.out.2.1 r hr) hpast
      have HFD : Hid (((pkeys l).take j).foldr stepP (stepP y.key (0, pkeys rs, pkeys ss)) = R9) := htk.symm.trans HI.out.2.2.2
      have HPT := Lib.hid hpast
      have HPL := Lib.hid hplt
      have u1 : (0 : Int) ≤ (j : Int) := by omega
      have u2 : (j : Int) < (l.length : Int) := by omega
      have u3 : (((j + 1 : Nat) : Int)) - 1 = (j : Int) := by omega
      have hj64 : j ≤ 500 := by omega
      have HRL : Hid (rs.length ≤ 500) := hrs
      have HBR := Lib.hid hBr
      rw [u3]
      unfold Pm.val at CP
      clear htk hpast hplt hyB hyl hS hy hBr u3 hrs
      go_wp2_with fail
      refine CP.out.mono ?_
      rintro e w7 ⟨A3, n3, c3, r3, z, er2, rfl, hp, hb⟩
      obtain ⟨p1, p2, p3, p4, p5, p6⟩ := hp.out
      rw [HPT.out] at p6
      simp only [Prod.mk.injEq] at p6
      obtain ⟨rfl, rfl, rfl⟩ := p6
      have hal : Below w7.heap.size w7 (w7.alloc (.cells #[.int .i64 z.kind, .string z.p, .string z.dst, .int .i64 z.at_, .slice z.a1 z.old.length z.c1, .slice z.a2 z.new.length z.c2] 33)) := (Below.refl _ _).alloc (Nat.le_refl _) _
      have hB7 : B ≤ w7.heap.size := Nat.le_trans HBR.out hb.size
      have H3 : Hid (RowB (w7.alloc (.cells #[.int .i64 z.kind, .string z.p, .string z.dst, .int .i64 z.at_, .slice z.a1 z.old.length z.c1, .slice z.a2 z.new.length z.c2] 33)) B A3 n3 c3 r3) := (RowB.on ⟨p1, p2, p3, p4⟩ hB7 hal)
      have HZ := Lib.hid (PrimAt.new_ w7 z)
      have HZO := Lib.hid (p5.below (hal.mono hB7))
      have hbl := hb.trans (hal.mono hb.size)
      have e1 : (w7.alloc (.cells z.cells.toArray 33)) = (w7.alloc (.cells #[.int .i64 z.kind, .string z.p, .string z.dst, .int .i64 z.at_, .slice z.a1 z.old.length z.c1, .slice z.a2 z.new.length z.c2] 33)) := rfl
      rw [e1] at HZ
      replace HJ := Lib.hid (⟨HJ.out.1.on HBR.out hbl, HJ.out.2⟩ : RowB _ _ _ _ _ _ ∧ _)
      replace HB := Lib.hid (HB.out.trans (hbl.mono HB.out.size))
      have HB8 : Hid (B ≤ (w7.alloc (.cells #[.int .i64 z.kind, .string z.p, .string z.dst, .int .i64 z.at_, .slice z.a1 z.old.length z.c1, .slice z.a2 z.new.length z.c2] 33)).heap.size) := Nat.le_trans hB7 hal.size
      clear hp p1 p2 p3 p4 p5 hal hB7 hbl hb e1 CP HI d0 d1 d2 d3 d4 d5
      by_cases he : er = 0
      · subst he
        have hst : stepP y.key (0, pkeys rs, pkeys ss) = (0, pkeys r3, z.key :: pkeys ss) := by
          unfold stepP
          simp only [ne_eq, not_true_eq_false, if_false, HPT.out]
        have HFN : Hid ((∀ x ∈ r3, LtK x.key) ∧ r3.length ≤ 500 ∧ ((pkeys l).take j).foldr stepP (0, pkeys r3, pkeys (z :: ss)) = R9) := by
          refine ⟨fun x hx => HPL.out.2.1 x.key (List.mem_map_of_mem hx), ?_, ?_⟩
          · have := HPL.out.2.2.1
            have h5 := HRL.out
            rw [pkeys_len, pkeys_len] at this
            omega
          · rw [← HFD.out, hst]
            rfl
        clear hst HFD HPT HPL
        go_upto_region 8 with (fail)
        generalize hwx : (w7.alloc (.cells #[.int .i64 z.kind, .string z.p, .string z.dst, .int .i64 z.at_, .slice z.a1 z.old.length z.c1, .slice z.a2 z.new.length z.c2] 33)) = wx at *
        clear hwx
        generalize w7.heap.size = gz at *
        have z0 := HZ.out.c0
        have z1 := HZ.out.c1
        have z2 := HZ.out.c2
        have z3 := HZ.out.c3
        have z4 := HZ.out.c4
        have z5 := HZ.out.c5
        have hax : Below wx.heap.size wx (wx.alloc (.cells #[.int .i64 z.kind, .string z.p, .string z.dst, .int .i64 z.at_, .slice z.a1 z.old.length z.c1, .slice z.a2 z.new.length z.c2] 33)) := (Below.refl _ _).alloc (Nat.le_refl _) _
        have HOW := Lib.hid (own_onep wx wx.heap.size z (Nat.le_refl _))
        have HJA := Lib.hid (HJ.out.1.on HB8.out hax)
        have HAX := Lib.hid hax
        obtain ⟨N, hN⟩ : ∃ N, N = [z].length + ss.length := ⟨_, rfl⟩
        have HN := Lib.hid hN
        have hs5 : ss.length ≤ 500 := by have := HJ.out.2; omega
        clear hax hN
        go_wp2_with (at_builtin; refine wpList_append_prims rfl _ _ rfl wx.heap.size (.slice (some ⟨wx.heap.size, 0, none⟩) 1 1) [z] rfl HOW.out ss A2 n2 c2 rfl HJA.out.len HJA.out.room.1 HJA.out.at_ HAX.out.size (by simp only [List.length_cons, List.length_nil]; omega) N HN.out ?_)
        intro A4 c4 w4 ho4 hg4
        have hb4 : Below wx.heap.size wx w4 := below_appendp HAX.out HOW.out hg4 (Nat.le_refl _)
        have HRN : Hid (RowB w4 B A4 N c4 (z :: ss) ∧ (z :: ss).length + j ≤ l.length) := by
          refine ⟨RowB.of_own ho4 (Nat.le_trans HB8.out hb4.size) (fun x hx => ?_), by have := HJ.out.2; simp only [List.length_cons]; omega⟩
          rcases List.mem_cons.1 hx with rfl | hx
          · exact HZO.out.below (hb4.mono HB8.out)
          · exact (HJ.out.1.ok x hx).below (hb4.mono HB8.out)
        have HI4 : Hid (RowB w4 B A3 n3 c3 r3 ∧ (∀ x ∈ r3, LtK x.key) ∧ r3.length ≤ 500 ∧ ((pkeys l).take j).foldr stepP (0, pkeys r3, pkeys (z :: ss)) = R9) := ⟨H3.out.on HB8.out hb4, HFN.out⟩
        have HBN := Lib.hid (HB.out.trans (hb4.mono HB.out.size))
        have q2 : IntKind.i64.wrap ((j : Int) - 1) = (j : Int) - 1 := IntWalk.i64_in _ (by omega)
        clear ho4 hg4 hb4 HOW HJA HAX HN HZ HZO H3 HJ HB HFN z0 z1 z2 z3 z4 z5
        go_wp2
        go_roundw
        case rel =>
          first
          | exact ⟨j, A3, n3, c3, r3, A4, N, c4, z :: ss, rfl, rfl, rfl, by omega, HI4.out, HRN.out, HBN.out⟩
          | ((repeat apply Exists.intro); exact ⟨⟨rfl, rfl, rfl, by omega, HI4.out, HRN.out, HBN.out⟩, rfl⟩)
        case measure => simp [intOf] <;> omega
      · have ke : (er != 0) = true := by simpa using he
        have hst : stepP y.key (0, pkeys rs, pkeys ss) = (er, [], []) := by
          unfold stepP
          simp only [ne_eq, not_true_eq_false, if_false, HPT.out]
          simp [he]
        have hR : R9 = (er, [], []) := by rw [← HFD.out, hst, fold_err _ _ he]
        have HF : Hid (RowsB w B R9 (.returned (.tuple #[.slice none 0 0, .slice none 0 0, .int .i64 er])) (w7.alloc (.cells #[.int .i64 z.kind, .string z.p, .string z.dst, .int .i64 z.at_, .slice z.a1 z.old.length z.c1, .slice z.a2 z.new.length z.c2] 33))) := ⟨none, 0, 0, [], none, 0, 0, [], er, rfl, ⟨RowB.nil _ _, RowB.nil _ _, hR⟩, HB.out⟩
        clear he hst hR HFD HPT HPL HJ HB H3 HZ HZO
        go_upto_region 7 with (fail)
        go_wp
        (try simp only [Exit.inBlock, Exit.then])
        refine bodyPost_ret (ret3 rfl _ _ _ _ _ rfl rfl rfl) rfl ?_
        exact HF.out
end Go.Proofs.YtalabahjfmcnbaaGreatDoor
