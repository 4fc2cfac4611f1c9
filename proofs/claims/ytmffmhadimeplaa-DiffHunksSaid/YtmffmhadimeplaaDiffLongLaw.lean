
/- The statement DiffLong: its walk, over what package diff's calls are to do. -/
import Derived.Test.YtmffmhadimeplaaDiffLaw
import Derived.Test.YtmffmhadimeplaaDiffLong
namespace Go.Proofs.Ytmffmhadimeplaa
open Go.RowKit
set_option linter.unusedVariables false

/-- What Hunks is to do with lists of which one is long. -/
def LongC : Prop := ∀ (A A2 : Option Addr) (la lc : List (List UInt8)) (cap cap2 : Nat) (w : World), Strs w w.heap.size A (toBs la) → Strs w w.heap.size A2 (toBs lc) → Room A la.length cap → Room A2 lc.length cap2 → 400 < la.length → 400 < lc.length → la.length ≤ 1000 → lc.length ≤ 1000 →
  Calls Try.prog 8 #[.slice A la.length cap, .slice A2 lc.length cap2] w (HunksTold w (longH la lc))
theorem make_strs (n : Nat) (hn : n ≤ 1000) (w : World) : (Instr.makeSlice 22 (.int .i64 (n : Int)) (.int .i64 (n : Int))).run Try.prog w = .ok (.slice (some ⟨w.heap.size, 0, none⟩) n n) (w.alloc (.cells (Array.replicate n (.string ⟨#[]⟩)) 9)) := by
  obtain ⟨i0, hi, hz0, hz1, hz2⟩ := info_parts info_str
  have h := run_make (w := w) 22 9 i0 _ Try.underlying22 hi hz0 .i64 .i64 (n : Int) (n : Int) (by omega) (by omega) (by rw [hz2]; omega) (by omega)
  rw [h, hz1]
  have e2 : madeCells (Value.string ByteArray.empty).cells ((n : Int).toNat * 1) = Array.replicate n (.string ⟨#[]⟩) := by
    rw [Int.toNat_natCast, Nat.mul_one]
    apply Array.ext
    · simp [madeCells]
    · intro i h1 h2
      simp [madeCells, Value.cells, Nat.mod_one]
      rfl
  rw [e2]
  rfl
theorem strs_made (w : World) (n : Nat) : Strs (w.alloc (.cells (Array.replicate n (.string ⟨#[]⟩)) 9)) (w.heap.size + 1) (some ⟨w.heap.size, 0, none⟩) (toBs (List.replicate n [])) := fun _ =>
  ⟨w.heap.size, 0, rfl, by omega, fun j hj => by
    rw [toBs_len, List.length_replicate] at hj
    rw [World.cell?_alloc_new]
    simp [toBs, toB, hj]⟩

theorem rsame_l2 (A A2 : Option Addr) (la lc : List (List UInt8)) (cap cap2 : Nat) (w : World) (hs : Strs w w.heap.size A (toBs la)) (ht : Strs w w.heap.size A2 (toBs lc)) (hn : la.length ≤ 1000000) (hn2 : lc.length ≤ 1000000) :
    Calls Try.prog 15 #[.slice A la.length cap, .slice A2 lc.length cap2] w fun e w' => e = .returned (.bool (decide (la = lc))) ∧ Below w.heap.size w w' := by
  have h := same_qq A A2 la lc cap cap2 w _ rfl hs ht hn hn2 0
  exact h.mono fun e w' ⟨h1, q, h2⟩ => ⟨h1, by rw [h2]; exact below_drewN (Below.refl _ _) q⟩
set_option maxHeartbeats 1000000 in
set_option maxRecDepth 100000 in
theorem long_light (c : DiffC) (cl : LongC) (A A2 : Option Addr) (la lc : List (List UInt8)) (cap cap2 : Nat) (n : Int) (w : World) (hs0 : Strs w w.heap.size A (toBs la)) (ht0 : Strs w w.heap.size A2 (toBs lc)) (RA : Room A la.length cap) (RB : Room A2 lc.length cap2) (h1 : light3B (toBs la) = true) (h2 : light3B (toBs lc) = true) (hn : 0 ≤ n) (hn2 : n ≤ 65535) :
    Calls Try.prog 5 #[.slice A la.length cap, .slice A2 lc.length cap2, .int .u16 n] w fun e w' => e = .returned (.bool true) ∧ Below w.heap.size w w' := by
  have hla := zeros_ok h1
  have hlc := zeros_ok h2
  have l1 := light3_any A (toBs la) cap w hs0 (by rw [toBs_len]; omega)
  have l2 := light3_any A2 (toBs lc) cap2 w ht0 (by rw [toBs_len]; omega)
  rw [toBs_len, h1] at l1
  rw [toBs_len, h2] at l2
  have L1 := Lib.hid l1
  have L2 := Lib.hid l2
  have SA := Lib.hid hs0
  have SB := Lib.hid ht0
  obtain ⟨m, hm⟩ : ∃ m : Nat, 401 + n % 50 = (m : Int) := ⟨(401 + n % 50).toNat, by omega⟩
  have hm1 : 401 ≤ m := by omega
  have hm2 : m ≤ 450 := by omega
  have hmk := make_strs m (by omega)
  obtain ⟨mid, hmid⟩ : ∃ mid : List (List UInt8), mid = List.replicate m [] := ⟨_, rfl⟩
  have hml : mid.length = m := by rw [hmid, List.length_replicate]
  have HML := Lib.hid hml
  obtain ⟨X, hX⟩ : ∃ X, X = la ++ mid := ⟨_, rfl⟩
  obtain ⟨Y, hY⟩ : ∃ Y, Y = lc ++ mid := ⟨_, rfl⟩
  have hXl : X.length = la.length + mid.length := by rw [hX, List.length_append]
  have hYl : Y.length = lc.length + mid.length := by rw [hY, List.length_append]
  have hX1 : 400 < X.length ∧ X.length ≤ 1000 := by omega
  have hY1 : 400 < Y.length ∧ Y.length ≤ 1000 := by omega
  have sm := (strs_made w m).more (B' := (w.alloc (.cells (Array.replicate m (.string ⟨#[]⟩)) 9)).heap.size) (by simp)
  rw [← hmid] at sm
  have hbm : Below w.heap.size w (w.alloc (.cells (Array.replicate m (.string ⟨#[]⟩)) 9)) := (Below.refl _ _).alloc (Nat.le_refl _) _
  have HX := Lib.hid hX
  have HY := Lib.hid hY
  have HXL := Lib.hid hXl
  have HYL := Lib.hid hYl
  have SM := Lib.hid sm
  have SA2 := Lib.hid (SA.out.on hbm)
  have SB2 := Lib.hid (SB.out.on hbm)
  have HBM := Lib.hid hbm
  clear l1 l2 hs0 ht0 h1 h2 hmid hml hX hY hXl hYl sm hbm SA SB
  go_enter Try.func5, Try.ntmps5
  go_wp2_with fail
  refine L1.out.mono ?_
  rintro e w' ⟨rfl, rfl⟩
  go_wp2_with fail
  refine L2.out.mono ?_
  rintro e w' ⟨rfl, rfl⟩
  clear L1 L2
  generalize hwm : w.alloc (.cells (Array.replicate m (.string ⟨#[]⟩)) 9) = wm at *
  go_wp2_with (at_builtin; refine wpList_append_row rfl _ _ rfl wm.heap.size _ [] la rfl (own_made wm wm.heap.size (Nat.le_refl _)) A cap la.length rfl rfl RA.1 (SA2.out.on ((Below.refl _ wm).alloc (Nat.le_refl _) _)) (by simp) (by simp; omega) la.length (by simp) ?_)
  intro Aa1 ca1 ua1 ho hs hg
  have hbx : Below wm.heap.size wm ua1 := ((Below.refl _ wm).alloc (Nat.le_refl _) _).grown hg (by simp) fun k hk => by simp [Value.ownBlock] at hk; omega
  have Oa := Lib.hid ho
  have BXa := Lib.hid hbx
  have SMa := Lib.hid (SM.out.on hbx)
  have hBa := hbx.size
  have hlea : la.length + mid.length ≤ 1000000 := by have := HML.out; omega
  clear ho hs hg hbx
  go_wp2_with (at_builtin; refine wpList_append_row rfl _ _ rfl wm.heap.size _ la mid rfl Oa.out (some ⟨w.heap.size, 0, none⟩) m m rfl HML.out.symm (fun e => by cases e) SMa.out hBa hlea X.length HXL.out ?_)
  intro Aa2 ca2 ua2 ho hs hg
  have hbx : Below wm.heap.size wm ua2 := BXa.out.grown hg hBa (fun k hk => ownBlock_ge Oa.out k hk)
  rw [← HX.out] at ho
  obtain ⟨hs2, hr2, _⟩ := ho.at_
  have SX := Lib.hid hs2
  have RX := Lib.hid hr2
  have SMB := Lib.hid (SM.out.on hbx)
  have SB3 := Lib.hid (SB2.out.on hbx)
  have HB2 := Lib.hid (HBM.out.trans (hbx.mono HBM.out.size))
  clear ho hs hg hbx hs2 hr2 Oa BXa SMa SM SB2 SA2 hmk hwm
  go_wp2_with (at_builtin; refine wpList_append_row rfl _ _ rfl ua2.heap.size _ [] lc rfl (own_made ua2 ua2.heap.size (Nat.le_refl _)) A2 cap2 lc.length rfl rfl RB.1 (SB3.out.on ((Below.refl _ ua2).alloc (Nat.le_refl _) _)) (by simp) (by simp; omega) lc.length (by simp) ?_)
  intro Ab1 cb1 ub1 ho hs hg
  have hbx : Below ua2.heap.size ua2 ub1 := ((Below.refl _ ua2).alloc (Nat.le_refl _) _).grown hg (by simp) fun k hk => by simp [Value.ownBlock] at hk; omega
  have Ob := Lib.hid ho
  have BXb := Lib.hid hbx
  have SMb := Lib.hid (SMB.out.on hbx)
  have hBb := hbx.size
  have hleb : lc.length + mid.length ≤ 1000000 := by have := HML.out; omega
  clear ho hs hg hbx
  go_wp2_with (at_builtin; refine wpList_append_row rfl _ _ rfl ua2.heap.size _ lc mid rfl Ob.out (some ⟨w.heap.size, 0, none⟩) m m rfl HML.out.symm (fun e => by cases e) SMb.out hBb hleb Y.length HYL.out ?_)
  intro Ab2 cb2 ub2 ho hs hg
  have hbx : Below ua2.heap.size ua2 ub2 := BXb.out.grown hg hBb (fun k hk => ownBlock_ge Ob.out k hk)
  rw [← HY.out] at ho
  obtain ⟨hs2, hr2, _⟩ := ho.at_
  have SY := Lib.hid hs2
  have RY := Lib.hid hr2
  have SX2 := Lib.hid (SX.out.on hbx)
  have HB3 := Lib.hid (HB2.out.trans (hbx.mono HB2.out.size))
  clear ho hs hg hbx hs2 hr2 Ob BXb SMb SMB SB3 SX
  obtain ⟨lf1, lf2, lf3, lf4⟩ := longH_facts X Y
  obtain ⟨lg1, lg2⟩ := longH_app X Y
  obtain ⟨ll1, ll2⟩ := longH_len X Y
  go_wp2_with fail
  refine (cl Aa2 Ab2 X Y ca2 cb2 ub2 SX2.out SY.out RX.out RY.out hX1.1 hY1.1 hX1.2 hY1.2).mono ?_
  rintro e w1 ⟨A1, k1, hs, rfl, hpl, hr1, hk1, hb⟩
  have hb1 := HB3.out.trans (hb.mono HB3.out.size)
  have SX2 := Lib.hid (SX2.out.on hb)
  have SY := Lib.hid (SY.out.on hb)
  have K1 := Lib.hid hk1
  clear hb hk1
  obtain ⟨hpl1, hp0⟩ := hpl
  rw [← hpl1] at lf1 lf2 lf3 lf4 lg1 lg2
  have hlen : hs.length = (longH X Y).length := by rw [← hpl1]; simp [plains]
  have hm := mayB_of hp0 lf2
  have hst := standB_of hp0 lg2
  have hsm := (small_of rfl lf2 (by omega)).1
  have hh1 : hs.length ≤ 1 := by omega
  have hat2 : ∀ h ∈ hs, h.at_ ≤ 1000000 := fun h hh => by
    have := (lg2 h.plain (List.mem_map.2 ⟨h, hh, rfl⟩)).1
    have h0 := hp0 h hh
    simp only [Hm.plain] at this
    omega
  have HM := Lib.hid hm
  have HPM := Lib.hid lf2
  have HPS := Lib.hid lg2
  have HAT := Lib.hid hat2
  have HSM := Lib.hid hsm
  have HAPP := Lib.hid lg1
  have HR1 := Lib.hid hr1
  have HSO : Hid (sumOld (plains hs) ≤ 10000 ∧ sumNew (plains hs) ≤ 10000) := ⟨by omega, by omega⟩
  have HZ : Hid ((hs.length = 0) ↔ X = Y) := by show _ ↔ _; rw [hlen]; exact ll2
  have ca := c.apply Aa2 A1 X hs ca2 k1 w1 SX2.out RX.out K1.out hr1 hsm (by omega) (by omega)
  rw [show applE X hs = 0 by simp [applE, hm, hst], lg1] at ca
  have CA := Lib.hid (told_ok ca)
  clear hpl1 hp0 lf1 lf2 lf3 lf4 lg1 lg2 ll1 ll2 hlen hm hst hsm hat2 hr1 ca
  go_wp2_with fail
  refine (CA.out).mono ?_
  rintro e w2 ⟨A3, k3, rfl, hs3, hb⟩
  have hb2 := hb1.trans (hb.mono hb1.size)
  have SX2 := Lib.hid (SX2.out.on hb)
  have SY := Lib.hid (SY.out.on hb)
  have K1 := Lib.hid (K1.out.on hb)
  have S3 := Lib.hid hs3
  clear hb hb1 hs3
  go_wp2_with fail
  refine (c.invert A1 hs k1 w2 K1.out HR1.out HSM.out (by omega) (fun _ => HAT.out)).mono ?_
  rintro e w3 ⟨A4, k4, ks, rfl, hinv, hr4, hk4, hb⟩
  have hb3 := hb2.trans (hb.mono hb2.size)
  have SX2 := Lib.hid (SX2.out.on hb)
  have SY := Lib.hid (SY.out.on hb)
  have S3 := Lib.hid (S3.out.on hb)
  have K4 := Lib.hid hk4
  clear hb hb2 hk4
  obtain ⟨hi1, hi2⟩ := hinv.1 HM.out
  obtain ⟨ha, hb', hc, hd, he, hf, hg⟩ := inv_facts (la := X) (lc := Y) HPM.out HPS.out HAPP.out hi1 hi2 HSO.out (by omega) (by omega)
  have ca := c.apply Ab2 A4 Y ks cb2 k4 w3 SY.out RY.out K4.out hr4 hd he hf
  rw [hb', hc] at ca
  have CA2 := Lib.hid (told_ok ca)
  clear ca hi1 hi2 ha hb' hc hd he hf hg hinv hr4
  go_wp2_with fail
  refine (CA2.out).mono ?_
  rintro e w4 ⟨A5, k5, rfl, hs5, hb⟩
  have hb4 := hb3.trans (hb.mono hb3.size)
  have SX2 := Lib.hid (SX2.out.on hb)
  have SY := Lib.hid (SY.out.on hb)
  have S3 := Lib.hid (S3.out.on hb)
  have S5 := Lib.hid hs5
  clear hb hb3 hs5
  go_wp2_with fail
  refine (awake4_any c w4).mono ?_
  rintro e w5 ⟨rfl, hb⟩
  have hb5 := hb4.trans (hb.mono hb4.size)
  have SX2 := Lib.hid (SX2.out.on hb)
  have SY := Lib.hid (SY.out.on hb)
  have S3 := Lib.hid (S3.out.on hb)
  have S5 := Lib.hid (S5.out.on hb)
  clear hb hb4
  have cs := rsame_l2 Aa2 Ab2 X Y ca2 cb2 w5 SX2.out SY.out (by omega) (by omega)
  have hdd : ((hs.length : Int) == 0) = decide (X = Y) := by
    have := HZ.out
    by_cases h : X = Y
    · have h0 := this.2 h
      rw [decide_eq_true h, beq_iff_eq]; omega
    · have h0 : hs.length ≠ 0 := fun e => h (this.1 e)
      rw [decide_eq_false h, beq_eq_false_iff_ne]; omega
  generalize decide (X = Y) = d at cs hdd
  have CS := Lib.hid cs
  have q1 : (d == d) = true := by simp
  clear cs
  go_wp2_with fail
  refine (CS.out).mono ?_
  rintro e w6 ⟨rfl, hb⟩
  have hb6 := hb5.trans (hb.mono hb5.size)
  have SX2 := Lib.hid (SX2.out.on hb)
  have SY := Lib.hid (SY.out.on hb)
  have S3 := Lib.hid (S3.out.on hb)
  have S5 := Lib.hid (S5.out.on hb)
  clear hb hb5
  go_wp2_with fail
  refine (rsame_b A3 Ab2 Y k3 cb2 w6 S3.out SY.out (by omega)).mono ?_
  rintro e w7 ⟨rfl, hb⟩
  have hb7 := hb6.trans (hb.mono hb6.size)
  have SX2 := Lib.hid (SX2.out.on hb)
  have SY := Lib.hid (SY.out.on hb)
  have S5 := Lib.hid (S5.out.on hb)
  clear hb hb6
  go_wp2_with fail
  refine (rsame_b A5 Aa2 X k5 ca2 w7 S5.out SX2.out (by omega)).mono ?_
  rintro e w8 ⟨rfl, hb⟩
  have hb8 := hb7.trans (hb.mono hb7.size)
  have SX2 := Lib.hid (SX2.out.on hb)
  have SY := Lib.hid (SY.out.on hb)
  clear hb hb7
  go_wp2
  go_ret
  exact ⟨rfl, hb8⟩
set_option maxRecDepth 100000 in
theorem long_dark1 (c : DiffC) (A A2 : Option Addr) (la lc : List (List UInt8)) (cap cap2 : Nat) (n : Int) (w : World) (hs0 : Strs w w.heap.size A (toBs la)) (ht0 : Strs w w.heap.size A2 (toBs lc)) (hn : la.length ≤ 9223372036854775807) (hn2 : lc.length ≤ 9223372036854775807) (h1 : light3B (toBs la) = false) :
    Calls Try.prog 5 #[.slice A la.length cap, .slice A2 lc.length cap2, .int .u16 n] w fun e w' => e = .returned (.bool true) ∧ Below w.heap.size w w' := by
  have l1 := light3_any A (toBs la) cap w hs0 (by rw [toBs_len]; exact hn)
  rw [toBs_len, h1] at l1
  have L1 := Lib.hid l1
  clear l1
  clear hs0 ht0 h1
  go_enter Try.func5, Try.ntmps5
  go_wp2_with fail
  refine L1.out.mono ?_
  rintro e w' ⟨rfl, rfl⟩
  go_wp2_with fail
  refine (awake4_any c w).mono ?_
  rintro e w2 ⟨rfl, hb⟩
  go_wp2
  go_ret
  exact ⟨rfl, hb⟩
set_option maxRecDepth 100000 in
theorem long_dark2 (c : DiffC) (A A2 : Option Addr) (la lc : List (List UInt8)) (cap cap2 : Nat) (n : Int) (w : World) (hs0 : Strs w w.heap.size A (toBs la)) (ht0 : Strs w w.heap.size A2 (toBs lc)) (hn : la.length ≤ 9223372036854775807) (hn2 : lc.length ≤ 9223372036854775807) (h1 : light3B (toBs la) = true) (h2 : light3B (toBs lc) = false) :
    Calls Try.prog 5 #[.slice A la.length cap, .slice A2 lc.length cap2, .int .u16 n] w fun e w' => e = .returned (.bool true) ∧ Below w.heap.size w w' := by
  have l1 := light3_any A (toBs la) cap w hs0 (by rw [toBs_len]; exact hn)
  rw [toBs_len, h1] at l1
  have L1 := Lib.hid l1
  clear l1
  have l2 := light3_any A2 (toBs lc) cap2 w ht0 (by rw [toBs_len]; exact hn2)
  rw [toBs_len, h2] at l2
  have L2 := Lib.hid l2
  clear l2
  clear hs0 ht0 h1 h2
  go_enter Try.func5, Try.ntmps5
  go_wp2_with fail
  refine L1.out.mono ?_
  rintro e w' ⟨rfl, rfl⟩
  go_wp2_with fail
  refine L2.out.mono ?_
  rintro e w' ⟨rfl, rfl⟩
  go_wp2_with fail
  refine (awake4_any c w).mono ?_
  rintro e w2 ⟨rfl, hb⟩
  go_wp2
  go_ret
  exact ⟨rfl, hb⟩
theorem difflong_any (c : DiffC) (cl : LongC) (A A2 : Option Addr) (ss tt : List ByteArray) (cap cap2 : Nat) (n : Int) (w : World) (hs0 : Strs w w.heap.size A ss) (hn : ss.length ≤ 9223372036854775807) (RA : Room A ss.length cap) (ht0 : Strs w w.heap.size A2 tt) (hn2 : tt.length ≤ 9223372036854775807) (RB : Room A2 tt.length cap2) (h0 : 0 ≤ n) (h1 : n ≤ 65535) :
    Calls Try.prog 5 #[.slice A ss.length cap, .slice A2 tt.length cap2, .int .u16 n] w fun e w' => e = .returned (.bool true) ∧ Below w.heap.size w w' := by
  obtain ⟨la, rfl⟩ : ∃ la, ss = toBs la := ⟨lists ss, (toBs_lists ss).symm⟩
  obtain ⟨lc, rfl⟩ : ∃ lc, tt = toBs lc := ⟨lists tt, (toBs_lists tt).symm⟩
  rw [toBs_len] at hn hn2 RA RB ⊢
  rw [toBs_len]
  cases k1 : light3B (toBs la) with
  | false => exact long_dark1 c A A2 la lc cap cap2 n w hs0 ht0 hn hn2 k1
  | true =>
    cases k2 : light3B (toBs lc) with
    | false => exact long_dark2 c A A2 la lc cap cap2 n w hs0 ht0 hn hn2 k1 k2
    | true => exact long_light c cl A A2 la lc cap cap2 n w hs0 ht0 RA RB k1 k2 h0 h1
end Go.Proofs.Ytmffmhadimeplaa
