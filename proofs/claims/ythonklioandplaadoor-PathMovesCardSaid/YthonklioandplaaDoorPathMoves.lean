
/- The statement PathMoves: its walk, over what package path's calls are to do. -/
import Derived.Test.YthonklioandplaaDoorPathLess
import Derived.Test.YthonklioandplaaDoorAppendStep
import Derived.Deep.RegionHeld3
import Derived.Deep.DrawnRows
namespace Go.Proofs.YthonklioandplaaDoor
open Go.RowKit
set_option linter.unusedVariables false
attribute [local go_sem ↓] Go.wp_at_zero Go.wp_at_succ

theorem pnames_sum (s : ByteArray) : ((pnames s).map List.length).sum ≤ 200 ∧ (pnames s).length ≤ 16 := by
  unfold pnames
  by_cases h : names nameP s.data.toList = []
  · rw [h]; simp
  · obtain ⟨h1, h2, _, h4⟩ := names_pieces nameP h
    have e := join_names nameP h
    have l := join_length (names nameP s.data.toList)
    rw [e] at l
    rw [h1] at l ⊢
    omega
theorem join_two (s t : ByteArray) (n : Nat) : (joinB (pnames s ++ (pnames t).drop n)).length ≤ 1000 := by
  have h1 := pnames_sum s
  have h2 := pnames_sum t
  have h3 : (((pnames t).drop n).map List.length).sum ≤ ((pnames t).map List.length).sum := by
    have := congrArg (fun l => (l.map List.length).sum) (List.take_append_drop n (pnames t))
    simp only [List.map_append, List.sum_append] at this
    omega
  rw [join_length]
  simp only [List.map_append, List.sum_append, List.length_append, List.length_drop]
  omega
/-- Names: the row, its address and room. -/
def NamesLeft (w : World) (ls : List (List UInt8)) (e : Ending) (w' : World) : Prop :=
  ∃ A cap, e = .returned (.slice A ls.length cap) ∧ Hid (Room A ls.length cap ∧ Strs w' w'.heap.size A (toBs ls)) ∧ Below w.heap.size w w'
theorem names_left (s : ByteArray) (w : World) (hs : s.size ≤ 9223372036854775807) : Calls Tryd.prog 7 #[.string s] w (NamesLeft w (pnames s)) :=
  (refnames_any s w hs).mono fun e w' ⟨v, h1, h2, h3⟩ => by
    obtain ⟨A, cap, rfl, hs2, _, _⟩ := h2.strs
    exact ⟨A, cap, h1, ⟨h2.at_.2.1, hs2⟩, h3⟩
theorem begins_any (A A2 : Option Addr) (la lc : List (List UInt8)) (cap cap2 : Nat) (w0 : World) (hs : Strs w0 w0.heap.size A (toBs la)) (ht : Strs w0 w0.heap.size A2 (toBs lc)) (hr : Room A la.length cap) (hn : la.length ≤ 1000000) (hn2 : lc.length ≤ 1000000) (w : World) (hb : Below w0.heap.size w0 w) :
    Calls Tryd.prog 18 #[.slice A la.length cap, .slice A2 lc.length cap2] w fun e w' => e = .returned (.bool (beginsP la lc)) ∧ Below w.heap.size w w' :=
  (refbegins_any A A2 la lc cap cap2 w (hs.on hb) (ht.on hb) hr hn hn2).mono fun e w' ⟨h1, q, h2⟩ => ⟨h1, by rw [h2]; exact below_drewN (Below.refl _ _) q⟩

theorem below_grow {w0 w w' : World} {C : Nat} {v : Value} {ls : List (List UInt8)} (hb : Below w0.heap.size w0 w) (ho : OwnS w C v ls) (hC : w0.heap.size ≤ C) (hg : w.grownBy w' v.ownBlock) : Below w0.heap.size w0 w' :=
  hb.grown hg hb.size fun k hk => Nat.le_trans hC (ownBlock_ge ho k hk)
theorem join_left (A : Option Addr) (cap n : Nat) (ls : List (List UInt8)) (hn : n = ls.length) (w : World) (hs : Strs w w.heap.size A (toBs ls)) (hl : ls.length ≤ 1000000) (hB : (joinB ls).length ≤ 1000000) (Q : ByteArray) (hQ : toB (joinB ls) = Q) :
    Calls Tryd.prog 8 #[.slice A n cap] w fun e w' => e = .returned (.string Q) ∧ w = w' := by
  subst hn hQ
  exact refjoin_any A ls cap w hs hl hB
set_option maxHeartbeats 20000000 in
set_option maxRecDepth 100000 in
theorem pathmoves_light (c : PathC) (a b z0 : ByteArray) (w : World) (ha : a.size ≤ 400) (hb : b.size ≤ 400) (hz : z0.size ≤ 400) :
    Calls Tryd.prog 4 #[.string a, .string b, .string z0] w fun e w' => e = .returned (.bool true) ∧ Below w.heap.size w w' := by
  have hjb0 := join_two z0 a (pnames b).length
  have n1 := fun w => names_left a w (by omega)
  have n2 := fun w => names_left b w (by omega)
  have n3 := fun w => names_left z0 w (by omega)
  have cw := fun w => c.within a b w (by omega) (by omega)
  have cm := fun w => c.move a b z0 w (by omega) (by omega) (by omega)
  have lx := (pnames_sum a).2
  have ly := (pnames_sum b).2
  have lz := (pnames_sum z0).2
  have hb0 : b.data.toList = [] → pnames b = [] := fun h => by unfold pnames; rw [h]; decide +kernel
  obtain ⟨dw, hdw⟩ : ∃ d, d = withinP nameP a.data.toList b.data.toList := ⟨_, rfl⟩
  obtain ⟨M, hM⟩ : ∃ M, M = toB (moveP nameP a.data.toList b.data.toList z0.data.toList) := ⟨_, rfl⟩
  rw [← hdw] at cw
  rw [← hM] at cm
  unfold withinP at hdw
  unfold moveP at hM
  change _ = toB (if pnames a ≠ [] ∧ pnames b ≠ [] ∧ pnames z0 ≠ [] ∧ beginsP (pnames a) (pnames b) = true ∧ names nameP (joinB (pnames z0 ++ (pnames a).drop (pnames b).length)) ≠ [] then joinB (pnames z0 ++ (pnames a).drop (pnames b).length) else a.data.toList) at hM
  change _ = (decide (pnames a ≠ []) && (decide (b.data.toList = []) || decide (pnames b ≠ [])) && decide ((pnames b).length < (pnames a).length) && beginsP (pnames a) (pnames b)) at hdw
  generalize pnames a = x at *
  generalize pnames b = y at *
  generalize pnames z0 = z at *
  obtain ⟨Qs, hq⟩ : ∃ Q, toB (joinB (z ++ x.drop y.length)) = Q := ⟨_, rfl⟩
  have hqs : Qs.size ≤ 1000000 := by rw [← hq]; simp [toB, ByteArray.size]; omega
  have cr := fun w => refpright_any Qs w (by omega)
  have hql : Qs.data.toList = joinB (z ++ x.drop y.length) := by rw [← hq, of_toB]
  rw [hql] at cr
  have hjb : (joinB (z ++ x.drop y.length)).length ≤ 1000000 := by omega
  obtain ⟨r, hr⟩ : ∃ r, r = decide (names nameP (joinB (z ++ x.drop y.length)) ≠ []) := ⟨_, rfl⟩
  rw [← hr] at cr
  have hMa : ¬ (x ≠ [] ∧ y ≠ [] ∧ z ≠ [] ∧ beginsP x y = true ∧ r = true) → M = a := fun h => by
    rw [hM, if_neg, toB_of]
    rintro ⟨h1, h2, h3, h4, h5⟩
    exact h ⟨h1, h2, h3, h4, by rw [hr]; exact decide_eq_true h5⟩
  have hMq : x ≠ [] → y ≠ [] → z ≠ [] → beginsP x y = true → r = true → M = Qs := fun h1 h2 h3 h4 h5 => by
    rw [hM, if_pos ⟨h1, h2, h3, h4, by rw [hr] at h5; exact of_decide_eq_true h5⟩, hq]
  have hbg : x.length < y.length → beginsP x y = false := fun h => by unfold beginsP; rw [decide_eq_false (by omega), Bool.false_and]
  have hbn : beginsP x [] = true := by simp [beginsP]
  clear hM hr hql hqs
  generalize hd : beginsP x y = d at *
  have N1 := Lib.hid n1
  have N2 := Lib.hid n2
  have N3 := Lib.hid n3
  have CW := Lib.hid cw
  have CM := Lib.hid cm
  have CR := Lib.hid cr
  have CA := Lib.hid (pawake_any c)
  have HD := Lib.hid hd
  clear n1 n2 n3 cw cm cr hjb0 hd
  by_cases hx0 : x = []
  · subst hx0
    obtain rfl : dw = false := by rw [hdw]; simp
    obtain rfl : M = a := hMa (fun h => h.1 rfl)
    clear hMa hMq hbg hbn hdw
    go_enter Tryd.func4, Tryd.ntmps4
    go_wp2_with fail
    refine (N1.out _).mono ?_
    rintro e w1 ⟨A1, k1, rfl, h1, b1⟩
    go_wp2_with fail
    refine (N2.out _).mono ?_
    rintro e w2 ⟨A2, k2, rfl, h2, b2⟩
    go_wp2_with fail
    refine (N3.out _).mono ?_
    rintro e w3 ⟨A3, k3, rfl, h3, b3⟩
    have B2 := Lib.hid (b1.trans (b2.mono b1.size))
    have B3 := Lib.hid (B2.out.trans (b3.mono B2.out.size))
    have T1 := Lib.hid ((h1.out.2.on b2).on b3)
    have T2 := Lib.hid (h2.out.2.on b3)
    have T3 := Lib.hid h3.out.2
    have R1 := Lib.hid h1.out.1
    have R3 := Lib.hid h3.out.1
    have BG0 := begins_any A1 A2 ([] : List (List UInt8)) y k1 k2 w3 T1.out T2.out R1.out (by omega) (by omega)
    rw [HD.out] at BG0
    have BG := Lib.hid BG0
    clear BG0 h1 h2 h3 b1 b2 b3 B2 N1 N2 N3
    have X0 : Hid (Below w3.heap.size w3 w3) := Below.refl _ _
    go_wp2_with fail
    refine (CA.out _).mono ?_
    rintro e w4 ⟨rfl, b⟩
    have X1 := Lib.hid (X0.out.trans (b.mono X0.out.size))
    clear b X0
    go_wp2_with fail
    refine (CW.out _).mono ?_
    rintro e w5 ⟨rfl, b⟩
    have X2 := Lib.hid (X1.out.trans (b.mono X1.out.size))
    clear b X1
    go_wp2_with fail
    refine (CM.out _).mono ?_
    rintro e w6 ⟨rfl, b⟩
    have X3 := Lib.hid (X2.out.trans (b.mono X2.out.size))
    clear b X2
    go_wp2
    go_ret
    exact ⟨rfl, B3.out.trans (X3.out.mono B3.out.size)⟩
  · by_cases hy0 : y = []
    · by_cases hbe : b.data.toList = []
      · subst hy0
        obtain rfl : b = ⟨#[]⟩ := bytes_inj hbe
        have hxp : 0 < x.length := List.length_pos_iff.2 hx0
        obtain rfl : d = true := by rw [← HD.out]; exact hbn
        obtain rfl : dw = true := by rw [hdw]; simp [hx0, hxp]
        obtain rfl : M = a := hMa (fun h => h.2.1 rfl)
        clear hMa hMq hbg hbn hdw
        go_enter Tryd.func4, Tryd.ntmps4
        go_wp2_with fail
        refine (N1.out _).mono ?_
        rintro e w1 ⟨A1, k1, rfl, h1, b1⟩
        go_wp2_with fail
        refine (N2.out _).mono ?_
        rintro e w2 ⟨A2, k2, rfl, h2, b2⟩
        go_wp2_with fail
        refine (N3.out _).mono ?_
        rintro e w3 ⟨A3, k3, rfl, h3, b3⟩
        have B2 := Lib.hid (b1.trans (b2.mono b1.size))
        have B3 := Lib.hid (B2.out.trans (b3.mono B2.out.size))
        have T1 := Lib.hid ((h1.out.2.on b2).on b3)
        have T2 := Lib.hid (h2.out.2.on b3)
        have T3 := Lib.hid h3.out.2
        have R1 := Lib.hid h1.out.1
        have R3 := Lib.hid h3.out.1
        have BG0 := begins_any A1 A2 x ([] : List (List UInt8)) k1 k2 w3 T1.out T2.out R1.out (by omega) (by omega)
        rw [HD.out] at BG0
        have BG := Lib.hid BG0
        clear BG0 h1 h2 h3 b1 b2 b3 B2 N1 N2 N3
        have X0 : Hid (Below w3.heap.size w3 w3) := Below.refl _ _
        go_wp2_with fail
        refine (BG.out _ X0.out).mono ?_
        rintro e w4 ⟨rfl, b⟩
        have X1 := Lib.hid (X0.out.trans (b.mono X0.out.size))
        clear b X0
        go_wp2_with fail
        refine (CA.out _).mono ?_
        rintro e w5 ⟨rfl, b⟩
        have X2 := Lib.hid (X1.out.trans (b.mono X1.out.size))
        clear b X1
        go_wp2_with fail
        refine (CW.out _).mono ?_
        rintro e w6 ⟨rfl, b⟩
        have X3 := Lib.hid (X2.out.trans (b.mono X2.out.size))
        clear b X2
        go_wp2_with fail
        refine (CM.out _).mono ?_
        rintro e w7 ⟨rfl, b⟩
        have X4 := Lib.hid (X3.out.trans (b.mono X3.out.size))
        clear b X3
        go_wp2
        go_ret
        exact ⟨rfl, B3.out.trans (X4.out.mono B3.out.size)⟩
      · subst hy0
        obtain rfl : dw = false := by rw [hdw]; simp [hbe]
        obtain rfl : M = a := hMa (fun h => h.2.1 rfl)
        have hxp : 0 < x.length := List.length_pos_iff.2 hx0
        have e0 : (b.toList == ([] : List UInt8)) = false := by rw [beq_eq_false_iff_ne, toList_eq]; exact hbe
        have e1 : ¬ b.toList = [] := by rw [toList_eq]; exact hbe
        clear hMa hMq hbg hbn hdw
        go_enter Tryd.func4, Tryd.ntmps4
        go_wp2_with fail
        refine (N1.out _).mono ?_
        rintro e w1 ⟨A1, k1, rfl, h1, b1⟩
        go_wp2_with fail
        refine (N2.out _).mono ?_
        rintro e w2 ⟨A2, k2, rfl, h2, b2⟩
        go_wp2_with fail
        refine (N3.out _).mono ?_
        rintro e w3 ⟨A3, k3, rfl, h3, b3⟩
        have B2 := Lib.hid (b1.trans (b2.mono b1.size))
        have B3 := Lib.hid (B2.out.trans (b3.mono B2.out.size))
        have T1 := Lib.hid ((h1.out.2.on b2).on b3)
        have T2 := Lib.hid (h2.out.2.on b3)
        have T3 := Lib.hid h3.out.2
        have R1 := Lib.hid h1.out.1
        have R3 := Lib.hid h3.out.1
        have BG0 := begins_any A1 A2 x ([] : List (List UInt8)) k1 k2 w3 T1.out T2.out R1.out (by omega) (by omega)
        rw [HD.out] at BG0
        have BG := Lib.hid BG0
        clear BG0 h1 h2 h3 b1 b2 b3 B2 N1 N2 N3
        have X0 : Hid (Below w3.heap.size w3 w3) := Below.refl _ _
        go_wp2_with fail
        refine (CA.out _).mono ?_
        rintro e w4 ⟨rfl, b⟩
        have X1 := Lib.hid (X0.out.trans (b.mono X0.out.size))
        clear b X0
        go_wp2_with fail
        refine (CW.out _).mono ?_
        rintro e w5 ⟨rfl, b⟩
        have X2 := Lib.hid (X1.out.trans (b.mono X1.out.size))
        clear b X1
        go_wp2_with fail
        refine (CM.out _).mono ?_
        rintro e w6 ⟨rfl, b⟩
        have X3 := Lib.hid (X2.out.trans (b.mono X2.out.size))
        clear b X2
        go_wp2
        go_ret
        exact ⟨rfl, B3.out.trans (X3.out.mono B3.out.size)⟩
    · by_cases hgt : y.length < x.length
      · have hxp : 0 < x.length := List.length_pos_iff.2 hx0
        have hyp : 0 < y.length := List.length_pos_iff.2 hy0
        have hbe : ¬ b.data.toList = [] := fun h => hy0 (hb0 h)
        have e0 : (b.toList == ([] : List UInt8)) = false := by rw [beq_eq_false_iff_ne, toList_eq]; exact hbe
        have e1 : ¬ b.toList = [] := by rw [toList_eq]; exact hbe
        obtain rfl : d = dw := by rw [hdw]; simp [hx0, hy0, hgt]
        by_cases hz0 : z = []
        · subst hz0
          obtain rfl : M = a := hMa (fun h => h.2.2.1 rfl)
          cases d with
          | false =>
            clear hMa hMq hbg hbn hdw
            go_enter Tryd.func4, Tryd.ntmps4
            go_wp2_with fail
            refine (N1.out _).mono ?_
            rintro e w1 ⟨A1, k1, rfl, h1, b1⟩
            go_wp2_with fail
            refine (N2.out _).mono ?_
            rintro e w2 ⟨A2, k2, rfl, h2, b2⟩
            go_wp2_with fail
            refine (N3.out _).mono ?_
            rintro e w3 ⟨A3, k3, rfl, h3, b3⟩
            have B2 := Lib.hid (b1.trans (b2.mono b1.size))
            have B3 := Lib.hid (B2.out.trans (b3.mono B2.out.size))
            have T1 := Lib.hid ((h1.out.2.on b2).on b3)
            have T2 := Lib.hid (h2.out.2.on b3)
            have T3 := Lib.hid h3.out.2
            have R1 := Lib.hid h1.out.1
            have R3 := Lib.hid h3.out.1
            have BG0 := begins_any A1 A2 x y k1 k2 w3 T1.out T2.out R1.out (by omega) (by omega)
            rw [HD.out] at BG0
            have BG := Lib.hid BG0
            clear BG0 h1 h2 h3 b1 b2 b3 B2 N1 N2 N3
            have X0 : Hid (Below w3.heap.size w3 w3) := Below.refl _ _
            go_wp2_with fail
            refine (BG.out _ X0.out).mono ?_
            rintro e w4 ⟨rfl, b⟩
            have X1 := Lib.hid (X0.out.trans (b.mono X0.out.size))
            clear b X0
            go_wp2_with fail
            refine (CA.out _).mono ?_
            rintro e w5 ⟨rfl, b⟩
            have X2 := Lib.hid (X1.out.trans (b.mono X1.out.size))
            clear b X1
            go_wp2_with fail
            refine (CW.out _).mono ?_
            rintro e w6 ⟨rfl, b⟩
            have X3 := Lib.hid (X2.out.trans (b.mono X2.out.size))
            clear b X2
            go_wp2_with fail
            refine (CM.out _).mono ?_
            rintro e w7 ⟨rfl, b⟩
            have X4 := Lib.hid (X3.out.trans (b.mono X3.out.size))
            clear b X3
            go_wp2
            go_ret
            exact ⟨rfl, B3.out.trans (X4.out.mono B3.out.size)⟩
          | true =>
            clear hMa hMq hbg hbn hdw
            go_enter Tryd.func4, Tryd.ntmps4
            go_wp2_with fail
            refine (N1.out _).mono ?_
            rintro e w1 ⟨A1, k1, rfl, h1, b1⟩
            go_wp2_with fail
            refine (N2.out _).mono ?_
            rintro e w2 ⟨A2, k2, rfl, h2, b2⟩
            go_wp2_with fail
            refine (N3.out _).mono ?_
            rintro e w3 ⟨A3, k3, rfl, h3, b3⟩
            have B2 := Lib.hid (b1.trans (b2.mono b1.size))
            have B3 := Lib.hid (B2.out.trans (b3.mono B2.out.size))
            have T1 := Lib.hid ((h1.out.2.on b2).on b3)
            have T2 := Lib.hid (h2.out.2.on b3)
            have T3 := Lib.hid h3.out.2
            have R1 := Lib.hid h1.out.1
            have R3 := Lib.hid h3.out.1
            have BG0 := begins_any A1 A2 x y k1 k2 w3 T1.out T2.out R1.out (by omega) (by omega)
            rw [HD.out] at BG0
            have BG := Lib.hid BG0
            clear BG0 h1 h2 h3 b1 b2 b3 B2 N1 N2 N3
            have X0 : Hid (Below w3.heap.size w3 w3) := Below.refl _ _
            go_wp2_with fail
            refine (BG.out _ X0.out).mono ?_
            rintro e w4 ⟨rfl, b⟩
            have X1 := Lib.hid (X0.out.trans (b.mono X0.out.size))
            clear b X0
            go_wp2_with fail
            refine (CA.out _).mono ?_
            rintro e w5 ⟨rfl, b⟩
            have X2 := Lib.hid (X1.out.trans (b.mono X1.out.size))
            clear b X1
            go_wp2_with fail
            refine (CW.out _).mono ?_
            rintro e w6 ⟨rfl, b⟩
            have X3 := Lib.hid (X2.out.trans (b.mono X2.out.size))
            clear b X2
            go_wp2_with fail
            refine (CM.out _).mono ?_
            rintro e w7 ⟨rfl, b⟩
            have X4 := Lib.hid (X3.out.trans (b.mono X3.out.size))
            clear b X3
            go_wp2
            go_ret
            exact ⟨rfl, B3.out.trans (X4.out.mono B3.out.size)⟩
        · have hzp : 0 < z.length := List.length_pos_iff.2 hz0
          cases d with
          | false =>
            obtain rfl : M = a := hMa (fun h => by cases h.2.2.2.1)
            clear hMa hMq hbg hbn hdw
            go_enter Tryd.func4, Tryd.ntmps4
            go_wp2_with fail
            refine (N1.out _).mono ?_
            rintro e w1 ⟨A1, k1, rfl, h1, b1⟩
            go_wp2_with fail
            refine (N2.out _).mono ?_
            rintro e w2 ⟨A2, k2, rfl, h2, b2⟩
            go_wp2_with fail
            refine (N3.out _).mono ?_
            rintro e w3 ⟨A3, k3, rfl, h3, b3⟩
            have B2 := Lib.hid (b1.trans (b2.mono b1.size))
            have B3 := Lib.hid (B2.out.trans (b3.mono B2.out.size))
            have T1 := Lib.hid ((h1.out.2.on b2).on b3)
            have T2 := Lib.hid (h2.out.2.on b3)
            have T3 := Lib.hid h3.out.2
            have R1 := Lib.hid h1.out.1
            have R3 := Lib.hid h3.out.1
            have BG0 := begins_any A1 A2 x y k1 k2 w3 T1.out T2.out R1.out (by omega) (by omega)
            rw [HD.out] at BG0
            have BG := Lib.hid BG0
            clear BG0 h1 h2 h3 b1 b2 b3 B2 N1 N2 N3
            have X0 : Hid (Below w3.heap.size w3 w3) := Below.refl _ _
            go_wp2_with fail
            refine (BG.out _ X0.out).mono ?_
            rintro e w4 ⟨rfl, b⟩
            have X1 := Lib.hid (X0.out.trans (b.mono X0.out.size))
            clear b X0
            go_wp2_with fail
            refine (BG.out _ X1.out).mono ?_
            rintro e w5 ⟨rfl, b⟩
            have X2 := Lib.hid (X1.out.trans (b.mono X1.out.size))
            clear b X1
            go_wp2_with fail
            refine (CA.out _).mono ?_
            rintro e w6 ⟨rfl, b⟩
            have X3 := Lib.hid (X2.out.trans (b.mono X2.out.size))
            clear b X2
            go_wp2_with fail
            refine (CW.out _).mono ?_
            rintro e w7 ⟨rfl, b⟩
            have X4 := Lib.hid (X3.out.trans (b.mono X3.out.size))
            clear b X3
            go_wp2_with fail
            refine (CM.out _).mono ?_
            rintro e w8 ⟨rfl, b⟩
            have X5 := Lib.hid (X4.out.trans (b.mono X4.out.size))
            clear b X4
            go_wp2
            go_ret
            exact ⟨rfl, B3.out.trans (X5.out.mono B3.out.size)⟩
          | true =>
            have hyx : y.length ≤ x.length := by
              rcases Nat.lt_or_ge x.length y.length with h | h
              · cases hbg h
              · exact h
            cases r with
            | false =>
              obtain rfl : M = a := hMa (fun h => by cases h.2.2.2.2)
              clear hMa hMq hbg hbn hdw
              go_enter Tryd.func4, Tryd.ntmps4
              go_wp2_with fail
              refine (N1.out _).mono ?_
              rintro e w1 ⟨A1, k1, rfl, h1, b1⟩
              go_wp2_with fail
              refine (N2.out _).mono ?_
              rintro e w2 ⟨A2, k2, rfl, h2, b2⟩
              go_wp2_with fail
              refine (N3.out _).mono ?_
              rintro e w3 ⟨A3, k3, rfl, h3, b3⟩
              have B2 := Lib.hid (b1.trans (b2.mono b1.size))
              have B3 := Lib.hid (B2.out.trans (b3.mono B2.out.size))
              have T1 := Lib.hid ((h1.out.2.on b2).on b3)
              have T2 := Lib.hid (h2.out.2.on b3)
              have T3 := Lib.hid h3.out.2
              have R1 := Lib.hid h1.out.1
              have R3 := Lib.hid h3.out.1
              have BG0 := begins_any A1 A2 x y k1 k2 w3 T1.out T2.out R1.out (by omega) (by omega)
              rw [HD.out] at BG0
              have BG := Lib.hid BG0
              clear BG0 h1 h2 h3 b1 b2 b3 B2 N1 N2 N3
              have X0 : Hid (Below w3.heap.size w3 w3) := Below.refl _ _
              go_wp2_with fail
              refine (BG.out _ X0.out).mono ?_
              rintro e w4 ⟨rfl, b⟩
              have X1 := Lib.hid (X0.out.trans (b.mono X0.out.size))
              clear b X0
              go_wp2_with fail
              refine (BG.out _ X1.out).mono ?_
              rintro e w5 ⟨rfl, b⟩
              have X2 := Lib.hid (X1.out.trans (b.mono X1.out.size))
              clear b X1
              have hXs := X2.out.size
              obtain ⟨A4, k4, xd, e4, p4, r4⟩ := part_from A1 x k1 y.length R1.out hyx
              have hwd : Below w5.heap.size w5 (w5.drew.alloc (.cells #[] 9)) := ((Below.refl _ _).drew).alloc (Nat.le_refl _) _
              have XD := Lib.hid (X2.out.trans (hwd.mono hXs))
              have HO := Lib.hid (show OwnS (w5.drew.alloc (.cells #[] 9)) w5.heap.size (.slice (some ⟨w5.heap.size, 0, none⟩) 0 0) [] from own_made w5.drew w5.heap.size (Nat.le_refl _))
              have P4 := Lib.hid p4
              have hxdl : xd.length ≤ 16 := by rw [e4, List.length_drop]; omega
              have HJ := Lib.hid (show (joinB ([] ++ z ++ xd)).length ≤ 1000000 by rw [List.nil_append, e4]; exact hjb)
              have HQE := Lib.hid (show toB (joinB ([] ++ z ++ xd)) = Qs by rw [List.nil_append, e4]; exact hq)
              have q1 : (0 : Int) ≤ (y.length : Int) := by omega
              have q2 : (y.length : Int) ≤ (x.length : Int) := by omega
              clear e4 p4 hwd
              go_wp2_with fail
              go_region_held3 (fun _ => True) (trivial) (first
                | ((refine step_append_strs (by rfl) _ _ (by rfl) w5.heap.size (.slice (some ⟨w5.heap.size, 0, none⟩) 0 0) [] z (by rfl) HO.out A3 k3 z.length (by rfl) rfl R3.out.1 (T3.out.on XD.out) (by simp) (by simp; omega) ?_); intro vP wP hoP hgP)
                | ((refine step_append_strs (by rfl) _ _ (by rfl) w5.heap.size vP ([] ++ z) xd (by rfl) hoP A4 k4 xd.length (by rfl) rfl P4.out.room.1 (P4.out.strs _ _ (T1.out.on (below_grow XD.out HO.out hXs hgP))) (by have := hgP.size; simp at this; omega) (by simp; omega) ?_); intro vQ wQ hoQ hgQ; obtain ⟨A6, k6, rfl, hsQ, _, _⟩ := hoQ.strs)
                | (go_at_call 8; refine (join_left A6 k6 _ ([] ++ z ++ xd) (by simp) _ hsQ (by simp; omega) HJ.out Qs HQE.out).mono ?_; rintro e wS ⟨rfl, rfl⟩))
              have X3 := Lib.hid (below_grow (below_grow XD.out HO.out hXs hgP) hoP hXs hgQ)
              clear hoP hoQ hgP hgQ hsQ HO P4 HJ HQE XD X2 hXs
              go_wp2_with fail
              refine (CR.out _).mono ?_
              rintro e w10 ⟨rfl, b⟩
              have X4 := Lib.hid (X3.out.trans (b.mono X3.out.size))
              clear b X3
              go_wp2_with fail
              refine (CA.out _).mono ?_
              rintro e w11 ⟨rfl, b⟩
              have X5 := Lib.hid (X4.out.trans (b.mono X4.out.size))
              clear b X4
              go_wp2_with fail
              refine (CW.out _).mono ?_
              rintro e w12 ⟨rfl, b⟩
              have X6 := Lib.hid (X5.out.trans (b.mono X5.out.size))
              clear b X5
              go_wp2_with fail
              refine (CM.out _).mono ?_
              rintro e w13 ⟨rfl, b⟩
              have X7 := Lib.hid (X6.out.trans (b.mono X6.out.size))
              clear b X6
              go_wp2
              go_ret
              exact ⟨rfl, B3.out.trans (X7.out.mono B3.out.size)⟩
            | true =>
              obtain rfl : Qs = M := (hMq hx0 hy0 hz0 rfl rfl).symm
              clear hMa hMq hbg hbn hdw
              go_enter Tryd.func4, Tryd.ntmps4
              go_wp2_with fail
              refine (N1.out _).mono ?_
              rintro e w1 ⟨A1, k1, rfl, h1, b1⟩
              go_wp2_with fail
              refine (N2.out _).mono ?_
              rintro e w2 ⟨A2, k2, rfl, h2, b2⟩
              go_wp2_with fail
              refine (N3.out _).mono ?_
              rintro e w3 ⟨A3, k3, rfl, h3, b3⟩
              have B2 := Lib.hid (b1.trans (b2.mono b1.size))
              have B3 := Lib.hid (B2.out.trans (b3.mono B2.out.size))
              have T1 := Lib.hid ((h1.out.2.on b2).on b3)
              have T2 := Lib.hid (h2.out.2.on b3)
              have T3 := Lib.hid h3.out.2
              have R1 := Lib.hid h1.out.1
              have R3 := Lib.hid h3.out.1
              have BG0 := begins_any A1 A2 x y k1 k2 w3 T1.out T2.out R1.out (by omega) (by omega)
              rw [HD.out] at BG0
              have BG := Lib.hid BG0
              clear BG0 h1 h2 h3 b1 b2 b3 B2 N1 N2 N3
              have X0 : Hid (Below w3.heap.size w3 w3) := Below.refl _ _
              go_wp2_with fail
              refine (BG.out _ X0.out).mono ?_
              rintro e w4 ⟨rfl, b⟩
              have X1 := Lib.hid (X0.out.trans (b.mono X0.out.size))
              clear b X0
              go_wp2_with fail
              refine (BG.out _ X1.out).mono ?_
              rintro e w5 ⟨rfl, b⟩
              have X2 := Lib.hid (X1.out.trans (b.mono X1.out.size))
              clear b X1
              have hXs := X2.out.size
              obtain ⟨A4, k4, xd, e4, p4, r4⟩ := part_from A1 x k1 y.length R1.out hyx
              have hwd : Below w5.heap.size w5 (w5.drew.alloc (.cells #[] 9)) := ((Below.refl _ _).drew).alloc (Nat.le_refl _) _
              have XD := Lib.hid (X2.out.trans (hwd.mono hXs))
              have HO := Lib.hid (show OwnS (w5.drew.alloc (.cells #[] 9)) w5.heap.size (.slice (some ⟨w5.heap.size, 0, none⟩) 0 0) [] from own_made w5.drew w5.heap.size (Nat.le_refl _))
              have P4 := Lib.hid p4
              have hxdl : xd.length ≤ 16 := by rw [e4, List.length_drop]; omega
              have HJ := Lib.hid (show (joinB ([] ++ z ++ xd)).length ≤ 1000000 by rw [List.nil_append, e4]; exact hjb)
              have HQE := Lib.hid (show toB (joinB ([] ++ z ++ xd)) = Qs by rw [List.nil_append, e4]; exact hq)
              have q1 : (0 : Int) ≤ (y.length : Int) := by omega
              have q2 : (y.length : Int) ≤ (x.length : Int) := by omega
              clear e4 p4 hwd
              go_wp2_with fail
              go_region_held3 (fun _ => True) (trivial) (first
                | ((refine step_append_strs (by rfl) _ _ (by rfl) w5.heap.size (.slice (some ⟨w5.heap.size, 0, none⟩) 0 0) [] z (by rfl) HO.out A3 k3 z.length (by rfl) rfl R3.out.1 (T3.out.on XD.out) (by simp) (by simp; omega) ?_); intro vP wP hoP hgP)
                | ((refine step_append_strs (by rfl) _ _ (by rfl) w5.heap.size vP ([] ++ z) xd (by rfl) hoP A4 k4 xd.length (by rfl) rfl P4.out.room.1 (P4.out.strs _ _ (T1.out.on (below_grow XD.out HO.out hXs hgP))) (by have := hgP.size; simp at this; omega) (by simp; omega) ?_); intro vQ wQ hoQ hgQ; obtain ⟨A6, k6, rfl, hsQ, _, _⟩ := hoQ.strs)
                | (go_at_call 8; refine (join_left A6 k6 _ ([] ++ z ++ xd) (by simp) _ hsQ (by simp; omega) HJ.out Qs HQE.out).mono ?_; rintro e wS ⟨rfl, rfl⟩))
              have X3 := Lib.hid (below_grow (below_grow XD.out HO.out hXs hgP) hoP hXs hgQ)
              clear hoP hoQ hgP hgQ hsQ HO P4 HJ HQE XD X2 hXs
              go_wp2_with fail
              refine (CR.out _).mono ?_
              rintro e w10 ⟨rfl, b⟩
              have X4 := Lib.hid (X3.out.trans (b.mono X3.out.size))
              clear b X3
              go_wp2_with fail
              refine (CA.out _).mono ?_
              rintro e w11 ⟨rfl, b⟩
              have X5 := Lib.hid (X4.out.trans (b.mono X4.out.size))
              clear b X4
              go_wp2_with fail
              refine (CW.out _).mono ?_
              rintro e w12 ⟨rfl, b⟩
              have X6 := Lib.hid (X5.out.trans (b.mono X5.out.size))
              clear b X5
              go_wp2_with fail
              refine (CM.out _).mono ?_
              rintro e w13 ⟨rfl, b⟩
              have X7 := Lib.hid (X6.out.trans (b.mono X6.out.size))
              clear b X6
              go_wp2
              go_ret
              exact ⟨rfl, B3.out.trans (X7.out.mono B3.out.size)⟩
      · have hxp : 0 < x.length := List.length_pos_iff.2 hx0
        have hyp : 0 < y.length := List.length_pos_iff.2 hy0
        have hbe : ¬ b.data.toList = [] := fun h => hy0 (hb0 h)
        have e0 : (b.toList == ([] : List UInt8)) = false := by rw [beq_eq_false_iff_ne, toList_eq]; exact hbe
        have e1 : ¬ b.toList = [] := by rw [toList_eq]; exact hbe
        obtain rfl : dw = false := by rw [hdw]; simp [hgt]
        by_cases hz0 : z = []
        · subst hz0
          obtain rfl : M = a := hMa (fun h => h.2.2.1 rfl)
          clear hMa hMq hbg hbn hdw
          go_enter Tryd.func4, Tryd.ntmps4
          go_wp2_with fail
          refine (N1.out _).mono ?_
          rintro e w1 ⟨A1, k1, rfl, h1, b1⟩
          go_wp2_with fail
          refine (N2.out _).mono ?_
          rintro e w2 ⟨A2, k2, rfl, h2, b2⟩
          go_wp2_with fail
          refine (N3.out _).mono ?_
          rintro e w3 ⟨A3, k3, rfl, h3, b3⟩
          have B2 := Lib.hid (b1.trans (b2.mono b1.size))
          have B3 := Lib.hid (B2.out.trans (b3.mono B2.out.size))
          have T1 := Lib.hid ((h1.out.2.on b2).on b3)
          have T2 := Lib.hid (h2.out.2.on b3)
          have T3 := Lib.hid h3.out.2
          have R1 := Lib.hid h1.out.1
          have R3 := Lib.hid h3.out.1
          have BG0 := begins_any A1 A2 x y k1 k2 w3 T1.out T2.out R1.out (by omega) (by omega)
          rw [HD.out] at BG0
          have BG := Lib.hid BG0
          clear BG0 h1 h2 h3 b1 b2 b3 B2 N1 N2 N3
          have X0 : Hid (Below w3.heap.size w3 w3) := Below.refl _ _
          go_wp2_with fail
          refine (CA.out _).mono ?_
          rintro e w4 ⟨rfl, b⟩
          have X1 := Lib.hid (X0.out.trans (b.mono X0.out.size))
          clear b X0
          go_wp2_with fail
          refine (CW.out _).mono ?_
          rintro e w5 ⟨rfl, b⟩
          have X2 := Lib.hid (X1.out.trans (b.mono X1.out.size))
          clear b X1
          go_wp2_with fail
          refine (CM.out _).mono ?_
          rintro e w6 ⟨rfl, b⟩
          have X3 := Lib.hid (X2.out.trans (b.mono X2.out.size))
          clear b X2
          go_wp2
          go_ret
          exact ⟨rfl, B3.out.trans (X3.out.mono B3.out.size)⟩
        · have hzp : 0 < z.length := List.length_pos_iff.2 hz0
          cases d with
          | false =>
            obtain rfl : M = a := hMa (fun h => by cases h.2.2.2.1)
            clear hMa hMq hbg hbn hdw
            go_enter Tryd.func4, Tryd.ntmps4
            go_wp2_with fail
            refine (N1.out _).mono ?_
            rintro e w1 ⟨A1, k1, rfl, h1, b1⟩
            go_wp2_with fail
            refine (N2.out _).mono ?_
            rintro e w2 ⟨A2, k2, rfl, h2, b2⟩
            go_wp2_with fail
            refine (N3.out _).mono ?_
            rintro e w3 ⟨A3, k3, rfl, h3, b3⟩
            have B2 := Lib.hid (b1.trans (b2.mono b1.size))
            have B3 := Lib.hid (B2.out.trans (b3.mono B2.out.size))
            have T1 := Lib.hid ((h1.out.2.on b2).on b3)
            have T2 := Lib.hid (h2.out.2.on b3)
            have T3 := Lib.hid h3.out.2
            have R1 := Lib.hid h1.out.1
            have R3 := Lib.hid h3.out.1
            have BG0 := begins_any A1 A2 x y k1 k2 w3 T1.out T2.out R1.out (by omega) (by omega)
            rw [HD.out] at BG0
            have BG := Lib.hid BG0
            clear BG0 h1 h2 h3 b1 b2 b3 B2 N1 N2 N3
            have X0 : Hid (Below w3.heap.size w3 w3) := Below.refl _ _
            go_wp2_with fail
            refine (BG.out _ X0.out).mono ?_
            rintro e w4 ⟨rfl, b⟩
            have X1 := Lib.hid (X0.out.trans (b.mono X0.out.size))
            clear b X0
            go_wp2_with fail
            refine (CA.out _).mono ?_
            rintro e w5 ⟨rfl, b⟩
            have X2 := Lib.hid (X1.out.trans (b.mono X1.out.size))
            clear b X1
            go_wp2_with fail
            refine (CW.out _).mono ?_
            rintro e w6 ⟨rfl, b⟩
            have X3 := Lib.hid (X2.out.trans (b.mono X2.out.size))
            clear b X2
            go_wp2_with fail
            refine (CM.out _).mono ?_
            rintro e w7 ⟨rfl, b⟩
            have X4 := Lib.hid (X3.out.trans (b.mono X3.out.size))
            clear b X3
            go_wp2
            go_ret
            exact ⟨rfl, B3.out.trans (X4.out.mono B3.out.size)⟩
          | true =>
            have hyx : y.length ≤ x.length := by
              rcases Nat.lt_or_ge x.length y.length with h | h
              · cases hbg h
              · exact h
            cases r with
            | false =>
              obtain rfl : M = a := hMa (fun h => by cases h.2.2.2.2)
              clear hMa hMq hbg hbn hdw
              go_enter Tryd.func4, Tryd.ntmps4
              go_wp2_with fail
              refine (N1.out _).mono ?_
              rintro e w1 ⟨A1, k1, rfl, h1, b1⟩
              go_wp2_with fail
              refine (N2.out _).mono ?_
              rintro e w2 ⟨A2, k2, rfl, h2, b2⟩
              go_wp2_with fail
              refine (N3.out _).mono ?_
              rintro e w3 ⟨A3, k3, rfl, h3, b3⟩
              have B2 := Lib.hid (b1.trans (b2.mono b1.size))
              have B3 := Lib.hid (B2.out.trans (b3.mono B2.out.size))
              have T1 := Lib.hid ((h1.out.2.on b2).on b3)
              have T2 := Lib.hid (h2.out.2.on b3)
              have T3 := Lib.hid h3.out.2
              have R1 := Lib.hid h1.out.1
              have R3 := Lib.hid h3.out.1
              have BG0 := begins_any A1 A2 x y k1 k2 w3 T1.out T2.out R1.out (by omega) (by omega)
              rw [HD.out] at BG0
              have BG := Lib.hid BG0
              clear BG0 h1 h2 h3 b1 b2 b3 B2 N1 N2 N3
              have X0 : Hid (Below w3.heap.size w3 w3) := Below.refl _ _
              go_wp2_with fail
              refine (BG.out _ X0.out).mono ?_
              rintro e w4 ⟨rfl, b⟩
              have X1 := Lib.hid (X0.out.trans (b.mono X0.out.size))
              clear b X0
              have hXs := X1.out.size
              obtain ⟨A4, k4, xd, e4, p4, r4⟩ := part_from A1 x k1 y.length R1.out hyx
              have hwd : Below w4.heap.size w4 (w4.drew.alloc (.cells #[] 9)) := ((Below.refl _ _).drew).alloc (Nat.le_refl _) _
              have XD := Lib.hid (X1.out.trans (hwd.mono hXs))
              have HO := Lib.hid (show OwnS (w4.drew.alloc (.cells #[] 9)) w4.heap.size (.slice (some ⟨w4.heap.size, 0, none⟩) 0 0) [] from own_made w4.drew w4.heap.size (Nat.le_refl _))
              have P4 := Lib.hid p4
              have hxdl : xd.length ≤ 16 := by rw [e4, List.length_drop]; omega
              have HJ := Lib.hid (show (joinB ([] ++ z ++ xd)).length ≤ 1000000 by rw [List.nil_append, e4]; exact hjb)
              have HQE := Lib.hid (show toB (joinB ([] ++ z ++ xd)) = Qs by rw [List.nil_append, e4]; exact hq)
              have q1 : (0 : Int) ≤ (y.length : Int) := by omega
              have q2 : (y.length : Int) ≤ (x.length : Int) := by omega
              clear e4 p4 hwd
              go_wp2_with fail
              go_region_held3 (fun _ => True) (trivial) (first
                | ((refine step_append_strs (by rfl) _ _ (by rfl) w4.heap.size (.slice (some ⟨w4.heap.size, 0, none⟩) 0 0) [] z (by rfl) HO.out A3 k3 z.length (by rfl) rfl R3.out.1 (T3.out.on XD.out) (by simp) (by simp; omega) ?_); intro vP wP hoP hgP)
                | ((refine step_append_strs (by rfl) _ _ (by rfl) w4.heap.size vP ([] ++ z) xd (by rfl) hoP A4 k4 xd.length (by rfl) rfl P4.out.room.1 (P4.out.strs _ _ (T1.out.on (below_grow XD.out HO.out hXs hgP))) (by have := hgP.size; simp at this; omega) (by simp; omega) ?_); intro vQ wQ hoQ hgQ; obtain ⟨A6, k6, rfl, hsQ, _, _⟩ := hoQ.strs)
                | (go_at_call 8; refine (join_left A6 k6 _ ([] ++ z ++ xd) (by simp) _ hsQ (by simp; omega) HJ.out Qs HQE.out).mono ?_; rintro e wS ⟨rfl, rfl⟩))
              have X2 := Lib.hid (below_grow (below_grow XD.out HO.out hXs hgP) hoP hXs hgQ)
              clear hoP hoQ hgP hgQ hsQ HO P4 HJ HQE XD X1 hXs
              go_wp2_with fail
              refine (CR.out _).mono ?_
              rintro e w9 ⟨rfl, b⟩
              have X3 := Lib.hid (X2.out.trans (b.mono X2.out.size))
              clear b X2
              go_wp2_with fail
              refine (CA.out _).mono ?_
              rintro e w10 ⟨rfl, b⟩
              have X4 := Lib.hid (X3.out.trans (b.mono X3.out.size))
              clear b X3
              go_wp2_with fail
              refine (CW.out _).mono ?_
              rintro e w11 ⟨rfl, b⟩
              have X5 := Lib.hid (X4.out.trans (b.mono X4.out.size))
              clear b X4
              go_wp2_with fail
              refine (CM.out _).mono ?_
              rintro e w12 ⟨rfl, b⟩
              have X6 := Lib.hid (X5.out.trans (b.mono X5.out.size))
              clear b X5
              go_wp2
              go_ret
              exact ⟨rfl, B3.out.trans (X6.out.mono B3.out.size)⟩
            | true =>
              obtain rfl : Qs = M := (hMq hx0 hy0 hz0 rfl rfl).symm
              clear hMa hMq hbg hbn hdw
              go_enter Tryd.func4, Tryd.ntmps4
              go_wp2_with fail
              refine (N1.out _).mono ?_
              rintro e w1 ⟨A1, k1, rfl, h1, b1⟩
              go_wp2_with fail
              refine (N2.out _).mono ?_
              rintro e w2 ⟨A2, k2, rfl, h2, b2⟩
              go_wp2_with fail
              refine (N3.out _).mono ?_
              rintro e w3 ⟨A3, k3, rfl, h3, b3⟩
              have B2 := Lib.hid (b1.trans (b2.mono b1.size))
              have B3 := Lib.hid (B2.out.trans (b3.mono B2.out.size))
              have T1 := Lib.hid ((h1.out.2.on b2).on b3)
              have T2 := Lib.hid (h2.out.2.on b3)
              have T3 := Lib.hid h3.out.2
              have R1 := Lib.hid h1.out.1
              have R3 := Lib.hid h3.out.1
              have BG0 := begins_any A1 A2 x y k1 k2 w3 T1.out T2.out R1.out (by omega) (by omega)
              rw [HD.out] at BG0
              have BG := Lib.hid BG0
              clear BG0 h1 h2 h3 b1 b2 b3 B2 N1 N2 N3
              have X0 : Hid (Below w3.heap.size w3 w3) := Below.refl _ _
              go_wp2_with fail
              refine (BG.out _ X0.out).mono ?_
              rintro e w4 ⟨rfl, b⟩
              have X1 := Lib.hid (X0.out.trans (b.mono X0.out.size))
              clear b X0
              have hXs := X1.out.size
              obtain ⟨A4, k4, xd, e4, p4, r4⟩ := part_from A1 x k1 y.length R1.out hyx
              have hwd : Below w4.heap.size w4 (w4.drew.alloc (.cells #[] 9)) := ((Below.refl _ _).drew).alloc (Nat.le_refl _) _
              have XD := Lib.hid (X1.out.trans (hwd.mono hXs))
              have HO := Lib.hid (show OwnS (w4.drew.alloc (.cells #[] 9)) w4.heap.size (.slice (some ⟨w4.heap.size, 0, none⟩) 0 0) [] from own_made w4.drew w4.heap.size (Nat.le_refl _))
              have P4 := Lib.hid p4
              have hxdl : xd.length ≤ 16 := by rw [e4, List.length_drop]; omega
              have HJ := Lib.hid (show (joinB ([] ++ z ++ xd)).length ≤ 1000000 by rw [List.nil_append, e4]; exact hjb)
              have HQE := Lib.hid (show toB (joinB ([] ++ z ++ xd)) = Qs by rw [List.nil_append, e4]; exact hq)
              have q1 : (0 : Int) ≤ (y.length : Int) := by omega
              have q2 : (y.length : Int) ≤ (x.length : Int) := by omega
              clear e4 p4 hwd
              go_wp2_with fail
              go_region_held3 (fun _ => True) (trivial) (first
                | ((refine step_append_strs (by rfl) _ _ (by rfl) w4.heap.size (.slice (some ⟨w4.heap.size, 0, none⟩) 0 0) [] z (by rfl) HO.out A3 k3 z.length (by rfl) rfl R3.out.1 (T3.out.on XD.out) (by simp) (by simp; omega) ?_); intro vP wP hoP hgP)
                | ((refine step_append_strs (by rfl) _ _ (by rfl) w4.heap.size vP ([] ++ z) xd (by rfl) hoP A4 k4 xd.length (by rfl) rfl P4.out.room.1 (P4.out.strs _ _ (T1.out.on (below_grow XD.out HO.out hXs hgP))) (by have := hgP.size; simp at this; omega) (by simp; omega) ?_); intro vQ wQ hoQ hgQ; obtain ⟨A6, k6, rfl, hsQ, _, _⟩ := hoQ.strs)
                | (go_at_call 8; refine (join_left A6 k6 _ ([] ++ z ++ xd) (by simp) _ hsQ (by simp; omega) HJ.out Qs HQE.out).mono ?_; rintro e wS ⟨rfl, rfl⟩))
              have X2 := Lib.hid (below_grow (below_grow XD.out HO.out hXs hgP) hoP hXs hgQ)
              clear hoP hoQ hgP hgQ hsQ HO P4 HJ HQE XD X1 hXs
              go_wp2_with fail
              refine (CR.out _).mono ?_
              rintro e w9 ⟨rfl, b⟩
              have X3 := Lib.hid (X2.out.trans (b.mono X2.out.size))
              clear b X2
              go_wp2_with fail
              refine (CA.out _).mono ?_
              rintro e w10 ⟨rfl, b⟩
              have X4 := Lib.hid (X3.out.trans (b.mono X3.out.size))
              clear b X3
              go_wp2_with fail
              refine (CW.out _).mono ?_
              rintro e w11 ⟨rfl, b⟩
              have X5 := Lib.hid (X4.out.trans (b.mono X4.out.size))
              clear b X4
              go_wp2_with fail
              refine (CM.out _).mono ?_
              rintro e w12 ⟨rfl, b⟩
              have X6 := Lib.hid (X5.out.trans (b.mono X5.out.size))
              clear b X5
              go_wp2
              go_ret
              exact ⟨rfl, B3.out.trans (X6.out.mono B3.out.size)⟩
theorem pathmoves_any (c : PathC) (a b z : ByteArray) (w : World) (ha : a.size ≤ 9223372036854775807) (hb : b.size ≤ 9223372036854775807) (hz : z.size ≤ 9223372036854775807) :
    Calls Tryd.prog 4 #[.string a, .string b, .string z] w fun e w' => e = .returned (.bool true) ∧ Below w.heap.size w w' := by
  by_cases h : a.size ≤ 400 ∧ b.size ≤ 400 ∧ z.size ≤ 400
  · exact pathmoves_light c a b z w h.1 h.2.1 h.2.2
  · have CA := Lib.hid (pawake_any c)
    by_cases h1 : 400 < a.size
    · go_enter Tryd.func4, Tryd.ntmps4
      go_wp2_with fail
      refine (CA.out _).mono ?_
      rintro e w1 ⟨rfl, b1⟩
      go_wp2
      go_ret
      exact ⟨rfl, b1⟩
    · by_cases h2 : 400 < b.size
      · have q1 : ¬ (400 : Int) < (a.size : Int) := by omega
        clear h
        go_enter Tryd.func4, Tryd.ntmps4
        go_wp2_with fail
        refine (CA.out _).mono ?_
        rintro e w1 ⟨rfl, b1⟩
        go_wp2
        go_ret
        exact ⟨rfl, b1⟩
      · have h3 : 400 < z.size := by omega
        have q1 : ¬ (400 : Int) < (a.size : Int) := by omega
        have q2 : ¬ (400 : Int) < (b.size : Int) := by omega
        clear h
        go_enter Tryd.func4, Tryd.ntmps4
        go_wp2_with fail
        refine (CA.out _).mono ?_
        rintro e w1 ⟨rfl, b1⟩
        go_wp2
        go_ret
        exact ⟨rfl, b1⟩
end Go.Proofs.YthonklioandplaaDoor
