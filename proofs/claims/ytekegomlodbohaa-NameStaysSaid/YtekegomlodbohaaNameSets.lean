/- The walks of NameSets and NameStays. -/
import Derived.Test.YtekegomlodbohaaNameLaw
namespace Go.Proofs.Ytekegomlodbohaa
open Go.RowKit
set_option linter.unusedVariables false

theorem keep_minus (a b : List (List UInt8)) : setS (keepS a b false) = minusS a b := by
  unfold keepS minusS
  congr 1
  apply List.filter_congr
  intro x _
  cases decide (x ∈ b) <;> rfl
theorem keep_both (a b : List (List UInt8)) : setS (keepS a b true) = bothS a b := by
  unfold keepS bothS
  congr 1
  apply List.filter_congr
  intro x _
  cases decide (x ∈ b) <;> rfl
theorem mem_minus (z : List UInt8) (a b : List (List UInt8)) : z ∈ minusS a b ↔ z ∈ a ∧ z ∉ b := by simp [minusS, mem_setS]
theorem same_iff (a b : List (List UInt8)) : decide (setS a = setS b) = decide ((minusS a b).length + (minusS b a).length = 0) := by
  rw [decide_eq_decide, setS_eq_iff]
  constructor
  · intro h
    have h1 : minusS a b = [] := List.eq_nil_iff_forall_not_mem.2 fun z hz => ((mem_minus z a b).1 hz).2 ((h z).1 ((mem_minus z a b).1 hz).1)
    have h2 : minusS b a = [] := List.eq_nil_iff_forall_not_mem.2 fun z hz => ((mem_minus z b a).1 hz).2 ((h z).2 ((mem_minus z b a).1 hz).1)
    rw [h1, h2]; rfl
  · intro h z
    have h1 : minusS a b = [] := List.length_eq_zero_iff.1 (by omega)
    have h2 : minusS b a = [] := List.length_eq_zero_iff.1 (by omega)
    constructor
    · intro hz
      refine Classical.byContradiction fun hn => ?_
      have := (mem_minus z a b).2 ⟨hz, hn⟩
      rw [h1] at this
      cases this
    · intro hz
      refine Classical.byContradiction fun hn => ?_
      have := (mem_minus z b a).2 ⟨hz, hn⟩
      rw [h2] at this
      cases this
theorem decide_self (l : List (List UInt8)) : decide (l = l) = true := by simp
theorem int_len (n : Nat) : ((n : Int) == 0) = decide (n = 0) := by
  rw [Bool.eq_iff_iff]
  simp
theorem int_len2 (n m : Nat) : ((n : Int) + (m : Int) == 0) = decide (n + m = 0) := by
  rw [Bool.eq_iff_iff, beq_iff_eq, decide_eq_true_eq]
  omega
theorem minus_len (a b : List (List UInt8)) : (minusS a b).length ≤ a.length := Nat.le_trans (setS_len _) (List.length_filter_le _ _)
theorem both_len (a b : List (List UInt8)) : (bothS a b).length ≤ a.length := Nat.le_trans (setS_len _) (List.length_filter_le _ _)

set_option maxRecDepth 100000 in
/-- Far too many: the law answers what awake answers. -/
theorem sets_dark (A A2 : Option Addr) (ss tt : List ByteArray) (cap cap2 : Nat) (x : ByteArray) (w : World) (hs : Strs w w.heap.size A ss) (ht : Strs w w.heap.size A2 tt) (hn : ss.length ≤ 9223372036854775807) (hn2 : tt.length ≤ 9223372036854775807) (hd : lightB ss = false ∨ lightB tt = false) :
    Calls Try.prog 4 #[.slice A ss.length cap, .slice A2 tt.length cap2, .string x] w fun e w' => e = .returned (.bool true) ∧ Below w.heap.size w w' := by
  have h1 := light_any A ss cap w hs hn
  have h2 := light_any A2 tt cap2 w ht hn2
  cases hl : lightB ss with
  | false =>
    rw [hl] at h1
    clear hs ht hd
    go_enter Try.func4, Try.ntmps4
    go_wp2_with fail
    refine h1.mono ?_
    rintro e w1 ⟨rfl, rfl⟩
    go_wp2_with fail
    refine (awake_any _).mono ?_
    rintro e w1 ⟨rfl, hb1⟩
    go_wp2
    go_ret
    exact ⟨rfl, hb1⟩
  | true =>
    have hl2 : lightB tt = false := by
      rcases hd with h | h
      · rw [hl] at h; cases h
      · exact h
    rw [hl] at h1
    rw [hl2] at h2
    clear hs ht hd
    go_enter Try.func4, Try.ntmps4
    go_wp2_with fail
    refine h1.mono ?_
    rintro e w1 ⟨rfl, rfl⟩
    go_wp2_with fail
    refine h2.mono ?_
    rintro e w1 ⟨rfl, rfl⟩
    go_wp2_with fail
    refine (awake_any _).mono ?_
    rintro e w1 ⟨rfl, hb1⟩
    go_wp2
    go_ret
    exact ⟨rfl, hb1⟩

/-- A row of both, one behind the other, as the law makes it. -/
theorem held0 {A A2 : Option Addr} {la lc : List (List UInt8)} {w : World} (hs : Strs w w.heap.size A (toBs la)) (ht : Strs w w.heap.size A2 (toBs lc)) : Held w w [(A, la), (A2, lc)] :=
  ⟨Below.refl _ _, fun p hp => by
    simp only [List.mem_cons, List.not_mem_nil, or_false] at hp
    rcases hp with rfl | rfl
    · exact hs
    · exact ht⟩

set_option maxHeartbeats 1000000 in
set_option maxRecDepth 100000 in
theorem sets_light (A A2 : Option Addr) (la lc : List (List UInt8)) (cap cap2 : Nat) (x : ByteArray) (w : World) (hA : A = none → cap = 0) (hA2 : A2 = none → cap2 = 0) (hs : Strs w w.heap.size A (toBs la)) (ht : Strs w w.heap.size A2 (toBs lc)) (hn : la.length ≤ 40) (hn2 : lc.length ≤ 40)
    (hl1 : lightB (toBs la) = true) (hl2 : lightB (toBs lc) = true) :
    Calls Try.prog 4 #[.slice A la.length cap, .slice A2 lc.length cap2, .string x] w fun e w' => e = .returned (.bool true) ∧ Below w.heap.size w w' := by
  have h1 := light_any A (toBs la) cap w hs (by rw [toBs_len]; omega)
  have h2 := light_any A2 (toBs lc) cap2 w ht (by rw [toBs_len]; omega)
  rw [hl1, toBs_len] at h1
  rw [hl2, toBs_len] at h2
  have H := Lib.hid (held0 hs ht)
  have HA := Lib.hid hA
  have HA2 := Lib.hid hA2
  clear hs ht hl1 hl2 hA hA2
  obtain ⟨u, hu⟩ : ∃ u, Hid (setS (la ++ lc) = u) := ⟨_, rfl⟩
  obtain ⟨sa, hsa⟩ : ∃ u, Hid (setS la = u) := ⟨_, rfl⟩
  obtain ⟨ls, hls⟩ : ∃ u, Hid (minusS la lc = u) := ⟨_, rfl⟩
  obtain ⟨bo, hbo⟩ : ∃ u, Hid (bothS la lc = u) := ⟨_, rfl⟩
  obtain ⟨mo, hmo⟩ : ∃ u, Hid (minusS lc la = u) := ⟨_, rfl⟩
  have lu : u.length ≤ 80 := by rw [← hu.out]; exact Nat.le_trans (setS_len _) (by simp; omega)
  have lsa : sa.length ≤ 40 := by rw [← hsa.out]; exact Nat.le_trans (setS_len _) hn
  have lls : ls.length ≤ 40 := by rw [← hls.out]; exact Nat.le_trans (minus_len _ _) hn
  have lbo : bo.length ≤ 40 := by rw [← hbo.out]; exact Nat.le_trans (both_len _ _) hn
  have lmo : mo.length ≤ 40 := by rw [← hmo.out]; exact Nat.le_trans (minus_len _ _) hn2
  have hla : ([] : List (List UInt8)).length + la.length ≤ 1000000 := by simp; omega
  have hlb : la.length + lc.length ≤ 1000000 := by omega
  have hlab : (la ++ lc).length ≤ 100000 := by simp; omega
  obtain ⟨n2, hn2'⟩ : ∃ n, n = la.length + lc.length := ⟨_, rfl⟩
  have hn3 : Hid ((la ++ lc).length = n2) := by rw [hn2']; exact List.length_append
  have Hn2 := Lib.hid hn2'
  clear hn2'
  go_enter Try.func4, Try.ntmps4
  go_wp2_with fail
  refine h1.mono ?_
  rintro e w1 ⟨rfl, rfl⟩
  go_wp2_with fail
  refine h2.mono ?_
  rintro e w1 ⟨rfl, rfl⟩
  clear h1 h2
  go_wp2_with (at_builtin; refine wpList_append_row rfl _ _ rfl w.heap.size _ [] la rfl (own_made w _ (Nat.le_refl _)) A cap la.length rfl rfl HA.out ((H.out.get (by simp)).on ((Below.refl _ w).alloc (Nat.le_refl _) _)) (by simp) hla la.length (by simp) ?_)
  intro A1 cap1 w1 ho1 hs1 hg1
  have hb1 := below_append ((Below.refl _ w).alloc (Nat.le_refl _) _) (own_made w _ (Nat.le_refl _)) hg1 (Nat.le_refl _)
  have O1 := Lib.hid ho1
  have H1 := Lib.hid (H.out.step hb1)
  clear ho1 hg1 hs1
  go_wp2_with (at_builtin; refine wpList_append_row rfl _ _ rfl w.heap.size _ la lc rfl O1.out A2 cap2 lc.length rfl rfl HA2.out (H1.out.get (by simp)) hb1.size hlb n2 Hn2.out ?_)
  intro A3 cap3 w2 ho2 hs3 hg2
  have hb2 := below_append hb1 O1.out hg2 (Nat.le_refl _)
  have H2 := Lib.hid (H.out.step hb2)
  clear ho2 hg2 hb1 O1 H1 hb2
  have c3 := Lib.hid (refset_l A3 (la ++ lc) cap3 w2 hs3 hlab)
  rw [hu.out, hn3.out] at c3
  clear hs3
  go_wp2_with fail
  refine c3.out.mono ?_
  rintro e w3 ⟨AU, capU, rfl, _, hsU, hbU⟩
  have H3 := Lib.hid ((H2.out.step hbU).push hsU)
  clear hsU hbU H2 c3
  have c4 := Lib.hid (refkeep_l A A2 la lc cap cap2 w3 false (H3.out.get (by simp)) (H3.out.get (by simp)) (by omega) (by omega))
  rw [keep_minus, hls.out] at c4
  go_wp2_with fail
  refine c4.out.mono ?_
  rintro e w4 ⟨A4, cap4, rfl, _, hs4, hb4⟩
  have H4 := Lib.hid ((H3.out.step hb4).push hs4)
  clear hs4 hb4 H3 c4
  have c5 := Lib.hid (refkeep_l A A2 la lc cap cap2 w4 true (H4.out.get (by simp)) (H4.out.get (by simp)) (by omega) (by omega))
  rw [keep_both, hbo.out] at c5
  go_wp2_with fail
  refine c5.out.mono ?_
  rintro e w5 ⟨A5, cap5, rfl, _, hs5, hb5⟩
  have H5 := Lib.hid ((H4.out.step hb5).push hs5)
  clear hs5 hb5 H4 c5
  have c6 := Lib.hid (refkeep_l A2 A lc la cap2 cap w5 false (H5.out.get (by simp)) (H5.out.get (by simp)) (by omega) (by omega))
  rw [keep_minus, hmo.out] at c6
  go_wp2_with fail
  refine c6.out.mono ?_
  rintro e w6 ⟨A6, cap6, rfl, _, hs6, hb6⟩
  have H6 := Lib.hid ((H5.out.step hb6).push hs6)
  clear hs6 hb6 H5 c6
  have c7 := Lib.hid (awake_any w6)
  go_wp2_with fail
  refine c7.out.mono ?_
  rintro e w7 ⟨rfl, hb7⟩
  have H7 := Lib.hid (H6.out.step hb7)
  clear hb7 H6 c7
  have c8 := Lib.hid (set_l A la cap w7 (H7.out.get (by simp)) (by omega))
  rw [hsa.out] at c8
  go_wp2_with fail
  refine c8.out.mono ?_
  rintro e w8 ⟨A8, cap8, rfl, _, hs8, hb8⟩
  have H8 := Lib.hid ((H7.out.step hb8).push hs8)
  clear hs8 hb8 H7 c8
  have c9 := Lib.hid (refset_l A la cap w8 (H8.out.get (by simp)) (by omega))
  rw [hsa.out] at c9
  go_wp2_with fail
  refine c9.out.mono ?_
  rintro e w9 ⟨A9, cap9, rfl, _, hs9, hb9⟩
  have H9 := Lib.hid ((H8.out.step hb9).push hs9)
  clear hs9 hb9 H8 c9
  have c10 := Lib.hid (same_l A8 A9 sa sa cap8 cap9 w9 (H9.out.get (by simp)) (H9.out.get (by simp)) (by omega) (by omega))
  rw [decide_self] at c10
  go_wp2_with fail
  refine c10.out.mono ?_
  rintro e w10 ⟨rfl, hb10⟩
  have H10 := Lib.hid (H9.out.step hb10)
  clear hb10 H9 c10
  obtain ⟨r, hr⟩ : ∃ r, Hid (decide (x.data.toList ∈ la) = r) := ⟨_, rfl⟩
  have c11 := Lib.hid (has_l A la cap w10 x (H10.out.get (by simp)) (by omega))
  rw [hr.out] at c11
  go_wp2_with fail
  refine c11.out.mono ?_
  rintro e w11 ⟨rfl, rfl⟩
  clear c11
  have c12 := Lib.hid (refhas_l A la cap w11 x (H10.out.get (by simp)) (by omega))
  rw [hr.out] at c12
  go_wp2_with fail
  refine c12.out.mono ?_
  rintro e w12 ⟨rfl, rfl⟩
  clear c12
  have c13 := Lib.hid (union_l A A2 la lc cap cap2 w11 HA.out HA2.out (H10.out.get (by simp)) (H10.out.get (by simp)) (by omega) (by omega))
  rw [hu.out] at c13
  go_wp2_with fail
  refine c13.out.mono ?_
  rintro e w13 ⟨A13, cap13, rfl, _, hs13, hb13⟩
  have H13 := Lib.hid ((H10.out.step hb13).push hs13)
  clear hs13 hb13 H10 c13
  have c14 := Lib.hid (same_l A13 AU u u cap13 capU w13 (H13.out.get (by simp)) (H13.out.get (by simp)) (by omega) (by omega))
  rw [decide_self] at c14
  go_wp2_with fail
  refine c14.out.mono ?_
  rintro e w14 ⟨rfl, hb14⟩
  have H14 := Lib.hid (H13.out.step hb14)
  clear hb14 H13 c14
  have c15 := Lib.hid (minus_l A A2 la lc cap cap2 w14 (H14.out.get (by simp)) (H14.out.get (by simp)) (by omega) (by omega))
  rw [hls.out] at c15
  go_wp2_with fail
  refine c15.out.mono ?_
  rintro e w15 ⟨A15, cap15, rfl, _, hs15, hb15⟩
  have H15 := Lib.hid ((H14.out.step hb15).push hs15)
  clear hs15 hb15 H14 c15
  have c16 := Lib.hid (same_l A15 A4 ls ls cap15 cap4 w15 (H15.out.get (by simp)) (H15.out.get (by simp)) (by omega) (by omega))
  rw [decide_self] at c16
  go_wp2_with fail
  refine c16.out.mono ?_
  rintro e w16 ⟨rfl, hb16⟩
  have H16 := Lib.hid (H15.out.step hb16)
  clear hb16 H15 c16
  have c17 := Lib.hid (both_l A A2 la lc cap cap2 w16 (H16.out.get (by simp)) (H16.out.get (by simp)) (by omega) (by omega))
  rw [hbo.out] at c17
  go_wp2_with fail
  refine c17.out.mono ?_
  rintro e w17 ⟨A17, cap17, rfl, _, hs17, hb17⟩
  have H17 := Lib.hid ((H16.out.step hb17).push hs17)
  clear hs17 hb17 H16 c17
  have c18 := Lib.hid (same_l A17 A5 bo bo cap17 cap5 w17 (H17.out.get (by simp)) (H17.out.get (by simp)) (by omega) (by omega))
  rw [decide_self] at c18
  go_wp2_with fail
  refine c18.out.mono ?_
  rintro e w18 ⟨rfl, hb18⟩
  have H18 := Lib.hid (H17.out.step hb18)
  clear hb18 H17 c18
  obtain ⟨q1, hq1⟩ : ∃ q, Hid (decide (ls.length = 0) = q) := ⟨_, rfl⟩
  have i1 : ((ls.length : Int) == 0) = q1 := by rw [int_len, hq1.out]
  have c19 := Lib.hid (within_l A A2 la lc cap cap2 w18 (H18.out.get (by simp)) (H18.out.get (by simp)) (by omega) (by omega))
  rw [hls.out, hq1.out] at c19
  go_wp2_with fail
  refine c19.out.mono ?_
  rintro e w19 ⟨rfl, hb19⟩
  have H19 := Lib.hid (H18.out.step hb19)
  clear hb19 H18 c19
  obtain ⟨q2, hq2⟩ : ∃ q, Hid (decide (ls.length + mo.length = 0) = q) := ⟨_, rfl⟩
  have i2 : ((ls.length : Int) + (mo.length : Int) == 0) = q2 := by rw [int_len2, hq2.out]
  have c20 := Lib.hid (nsame_l A A2 la lc cap cap2 w19 (H19.out.get (by simp)) (H19.out.get (by simp)) (by omega) (by omega))
  rw [same_iff, hls.out, hmo.out, hq2.out] at c20
  go_wp2_with fail
  refine c20.out.mono ?_
  rintro e w20 ⟨rfl, hb20⟩
  have H20 := Lib.hid (H19.out.step hb20)
  clear hb20 H19 c20
  go_wp2
  go_ret
  refine ⟨?_, H20.out.1⟩
  simp
end Go.Proofs.Ytekegomlodbohaa
