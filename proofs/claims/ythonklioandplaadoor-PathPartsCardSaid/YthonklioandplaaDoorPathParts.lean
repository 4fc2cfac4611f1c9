
/- The statement PathParts: its walk, over what package path's calls are to do. -/
import Derived.Test.YthonklioandplaaDoorPathMoves
namespace Go.Proofs.YthonklioandplaaDoor
open Go.RowKit
set_option linter.unusedVariables false

theorem phigh_any (a b : Int) (w : World) :
    Calls Tryd.prog 11 #[.int .i64 a, .int .i64 b] w fun e w' => e = .returned (.int .i64 (max a b)) ∧ w' = w := by
  by_cases h : b < a
  · have e : max a b = a := by omega
    rw [e]
    go_enter Tryd.func11, Tryd.ntmps11
    go_wp2
    go_ret
    exact ⟨rfl, rfl⟩
  · have e : max a b = b := by omega
    rw [e]
    go_enter Tryd.func11, Tryd.ntmps11
    go_wp2
    go_ret
    exact ⟨rfl, rfl⟩
theorem rjoin_qq (A : Option Addr) (cap n : Nat) (ls : List (List UInt8)) (hn : n = ls.length) (w : World) (hs : Strs w w.heap.size A (toBs ls)) (hl : ls.length ≤ 1000000) (hB : (joinB ls).length ≤ 1000000) (Q : ByteArray) (hQ : toB (joinB ls) = Q) (q : Nat) :
    Calls Tryd.prog 8 #[.slice A n cap] (w.drewN q) fun e w' => e = .returned (.string Q) ∧ ∃ m, w' = w.drewN m :=
  (join_left A cap n ls hn (w.drewN q) hs hl hB Q hQ).mono fun e w' ⟨h1, h2⟩ => ⟨h1, q, h2.symm⟩
theorem rsame_b (A A2 : Option Addr) (la lc : List (List UInt8)) (cap cap2 : Nat) (w : World) (d : Bool) (hd : decide (la = lc) = d) (hs : Strs w w.heap.size A (toBs la)) (ht : Strs w w.heap.size A2 (toBs lc)) (hn : la.length ≤ 1000000) (hn2 : lc.length ≤ 1000000) :
    Calls Tryd.prog 9 #[.slice A la.length cap, .slice A2 lc.length cap2] w fun e w' => e = .returned (.bool d) ∧ Below w.heap.size w w' :=
  (rsame_l A A2 la lc cap cap2 w d hd hs ht hn hn2).mono fun e w' ⟨h1, q, h2⟩ => ⟨h1, by rw [h2]; exact below_drewN (Below.refl _ _) q⟩
theorem names_len (p : List UInt8) : (names nameP p).length ≤ 16 := by
  unfold names
  split
  · rename_i h; exact h.2.2
  · simp
theorem sum_le100 : ∀ (l : List (List UInt8)), (∀ x ∈ l, x.length ≤ 100) → (l.map List.length).sum ≤ 100 * l.length
  | [], _ => by simp
  | x :: l, h => by
    have h1 := h x (by simp)
    have h2 := sum_le100 l fun y hy => h y (List.mem_cons_of_mem _ hy)
    simp only [List.map_cons, List.sum_cons, List.length_cons]
    omega
theorem join_part (s : ByteArray) (k : Nat) : (joinB ((pnames s).take k)).length ≤ 1000 := by
  have h1 := join_take_le (pnames s) k
  have h2 := pnames_sum s
  rw [join_length (pnames s)] at h1
  omega

set_option maxHeartbeats 20000000 in
set_option maxRecDepth 100000 in
theorem pathparts_light (c : PathC) (J : JoinC) (p : ByteArray) (A0 : Option Addr) (ls : List (List UInt8)) (cap0 : Nat) (w : World) (hp : p.size ≤ 400) (hs0 : Strs w w.heap.size A0 (toBs ls)) (hr0 : Room A0 ls.length cap0) (hl : ls.length ≤ 20) (hl2 : ∀ x ∈ ls, x.length ≤ 100) :
    Calls Tryd.prog 3 #[.string p, .slice A0 ls.length cap0] w fun e w' => e = .returned (.bool true) ∧ Below w.heap.size w w' := by
  have n1 := fun w => names_left p w (by omega)
  have lx := (pnames_sum p).2
  have jp := fun k => join_part p k
  have hjl : (joinB ls).length ≤ 3000 := by
    have := sum_le100 ls hl2
    rw [join_length]
    omega
  have hdir : toB (dirP nameP p.data.toList) = toB (joinB (pnames p).dropLast) := rfl
  have hbase : toB (baseP nameP p.data.toList) = toB ((pnames p).getLast?.getD []) := rfl
  have hups : upsP nameP p.data.toList = (List.range ((pnames p).length - 1)).map fun i => joinB ((pnames p).take (i + 1)) := rfl
  have cj := fun w hs => J A0 ls cap0 w hs hr0 hl hl2
  have cs := fun w => c.split p w (by omega)
  have cr := fun w => c.right p w (by omega)
  have cd := fun w => c.dir p w (by omega)
  have cb := fun w => c.base p w (by omega)
  have cu := fun w => c.ups p w (by omega)
  have rr := fun w => refpright_any p w (by omega)
  have hjp : joinP nameP ls = if names nameP (joinB ls) = ls then joinB ls else [] := rfl
  change ∀ w, Calls _ _ _ _ fun e w' => e = .returned (.bool (decide (pnames p ≠ []))) ∧ _ at rr
  rw [hdir] at cd
  rw [hbase] at cb
  obtain ⟨us, hus⟩ : ∃ us, us = upsP nameP p.data.toList := ⟨_, rfl⟩
  rw [← hus] at cu
  rw [hups] at hus
  clear hdir hbase hups
  generalize pnames p = x at *
  obtain ⟨Wt, hWt⟩ : ∃ W, toB (joinB ls) = W := ⟨_, rfl⟩
  have hWl : Wt.size ≤ 3000 := by rw [← hWt]; simp [toB, ByteArray.size]; omega
  have hWd : Wt.data.toList = joinB ls := by rw [← hWt, of_toB]
  have nw := fun w => names_left Wt w (by omega)
  obtain ⟨y, hy⟩ : ∃ y, pnames Wt = y := ⟨_, rfl⟩
  rw [hy] at nw
  have hyy : names nameP (joinB ls) = y := by rw [← hy, ← hWd]; rfl
  rw [hyy] at hjp
  have ly : y.length ≤ 16 := by rw [← hy]; exact (pnames_sum Wt).2
  obtain ⟨dj, hdj⟩ : ∃ d, decide (y = ls) = d := ⟨_, rfl⟩
  have hul : us.length = x.length - 1 := by rw [hus]; simp
  have hug : ∀ k (h : k < us.length), us[k] = joinB (x.take (k + 1)) := by
    intro k h
    simp only [hus, List.getElem_map, List.getElem_range]
  obtain ⟨rb, hrb⟩ : ∃ d, d = decide (x ≠ []) := ⟨_, rfl⟩
  rw [← hrb] at cr rr
  have hll : ∀ k (h : k < ls.length), (toB ls[k]).size ≤ 100 := fun k h => by
    have := hl2 ls[k] (List.getElem_mem _)
    simpa [toB, ByteArray.size] using this
  have N1 := Lib.hid n1
  have NW := Lib.hid nw
  have CJ0 := Lib.hid cj
  have CS := Lib.hid cs
  have CR := Lib.hid cr
  have CD0 := Lib.hid cd
  have CB0 := Lib.hid cb
  have CU := Lib.hid cu
  have RR := Lib.hid rr
  have CA := Lib.hid (pawake_any c)
  have HS0 := Lib.hid hs0
  have HUG := Lib.hid hug
  have HLL := Lib.hid hll
  have HWT := Lib.hid hWt
  have HDJ := Lib.hid hdj
  have JP := Lib.hid jp
  have HJP := Lib.hid hjp
  have HR0 := Lib.hid hr0
  clear n1 nw cj cs cr cd cb cu rr hs0 hug hll hWt hdj jp hjp hus hy hyy hWd hrb hl2 hr0
  by_cases hx0 : x = []
  · cases dj with
    | true =>
      subst hx0
      have hu0 : us.length = 0 := by rw [hul]; rfl
      have DD : Hid (toB (joinB ([] : List (List UInt8)).dropLast) = ⟨#[]⟩) := by show _ = _; decide +kernel
      have DB : Hid (toB (([] : List (List UInt8)).getLast?.getD []) = ⟨#[]⟩) := by show _ = _; decide +kernel
      have CD1 := CD0.out
      rw [DD.out] at CD1
      have CB1 := CB0.out
      rw [DB.out] at CB1
      have CD := Lib.hid CD1
      have CB := Lib.hid CB1
      clear CD1 CB1 DD DB CD0 CB0
      have hye : y = ls := of_decide_eq_true HDJ.out
      have CJ1 := CJ0.out
      rw [HJP.out, if_pos hye, HWT.out] at CJ1
      have CJ := Lib.hid CJ1
      clear CJ1 CJ0 hye
      go_enter Tryd.func3, Tryd.ntmps3
      go_wp2
      go_loop [5] (fun iv => ∃ k : Nat, k ≤ ls.length ∧ iv = .int .i64 (k : Int)) (fun iv => ls.length - (intOf iv).toNat)
      case atStart => exact ⟨0, Nat.zero_le _, rfl⟩
      case round =>
        obtain ⟨k, hk, rfl⟩ := hrel
        by_cases hlt : k < ls.length
        · obtain ⟨g, off, rfl, _, hc⟩ := HS0.out.at_ (k := k) (by rw [toBs_len]; exact hlt)
          have e0 : (toBs ls)[k]'(by rw [toBs_len]; exact hlt) = toB ls[k] := by simp [toBs]
          rw [e0] at hc
          have hz := HLL.out k hlt
          clear e0
          generalize toB ls[k] = z at *
          go_wp2
          go_round
          case rel => exact ⟨k + 1, by omega, by go_num⟩
          case measure => simp [intOf] <;> omega
        · obtain rfl : k = ls.length := by omega
          have X0 : Hid (Below w.heap.size w w) := Below.refl _ _
          go_wp2_with fail
          refine (N1.out _).mono ?_
          rintro e w1 ⟨A1, k1, rfl, h1, b⟩
          have X1 := Lib.hid (X0.out.trans (b.mono X0.out.size))
          have T1 := Lib.hid h1.out.2
          have R1 := Lib.hid h1.out.1
          clear h1 b X0
          have SW := Lib.hid (HS0.out.on X1.out)
          have J2 := Lib.hid (join_left A0 cap0 _ ls rfl w1 SW.out (by omega) (by omega) Wt HWT.out)
          go_wp2_with fail
          refine J2.out.mono ?_
          rintro e wJ ⟨rfl, rfl⟩
          clear J2 SW
          go_wp2_with fail
          refine (NW.out _).mono ?_
          rintro e w2 ⟨A3, k3, rfl, h3, b⟩
          have X2 := Lib.hid (X1.out.trans (b.mono X1.out.size))
          have T12 := Lib.hid (T1.out.on b)
          have T3 := Lib.hid h3.out.2
          have SM := Lib.hid (rsame_b A3 A0 y ls k3 cap0 w2 _ HDJ.out T3.out (HS0.out.on X2.out) (by omega) (by omega))
          clear h3 b X1 T1
          go_wp2_with fail
          refine (SM.out).mono ?_
          rintro e w3 ⟨rfl, b⟩
          have X3 := Lib.hid (X2.out.trans (b.mono X2.out.size))
          have T13 := Lib.hid (T12.out.on b)
          clear b X2 T12 SM T3
          go_wp2_with fail
          refine (CU.out _).mono ?_
          rintro e w4 ⟨A5, k5, rfl, hn5, s5, b⟩
          have X4 := Lib.hid (X3.out.trans (b.mono X3.out.size))
          have T14 := Lib.hid (T13.out.on b)
          have S5 := Lib.hid s5
          clear b X3 T13 s5 hn5
          go_wp2
          go_loop [11] (fun iv => iv = .int .i64 0) (fun iv => 0)
          case atStart => rfl
          case round =>
            obtain rfl := hrel
            go_wp2_with fail
            refine (CA.out _).mono ?_
            rintro e w5 ⟨rfl, b⟩
            have X5 := Lib.hid (X4.out.trans (b.mono X4.out.size))
            have T15 := Lib.hid (T14.out.on b)
            clear b X4 T14
            have HI := Lib.hid (phigh_any (-1) 0)
            go_wp2_with fail
            refine (HI.out _).mono ?_
            rintro e wH ⟨rfl, rfl⟩
            have hmx : max (-1 : Int) 0 = 0 := by omega
            go_wp2_with fail
            refine (CR.out _).mono ?_
            rintro e w6 ⟨rfl, b⟩
            have X6 := Lib.hid (X5.out.trans (b.mono X5.out.size))
            have T16 := Lib.hid (T15.out.on b)
            clear b X5 T15
            go_wp2_with fail
            refine (RR.out _).mono ?_
            rintro e w7 ⟨rfl, b⟩
            have X7 := Lib.hid (X6.out.trans (b.mono X6.out.size))
            have T17 := Lib.hid (T16.out.on b)
            clear b X6 T16
            go_wp2_with fail
            refine (CS.out _).mono ?_
            rintro e w8 ⟨A7, k7, rfl, hn7, s7, b⟩
            have X8 := Lib.hid (X7.out.trans (b.mono X7.out.size))
            have T18 := Lib.hid (T17.out.on b)
            have S2 := Lib.hid (rsame_b A7 A1 ([] : List (List UInt8)) ([] : List (List UInt8)) k7 k1 w8 true (by simp) s7 T18.out (by simp) (by simp))
            clear b X7 T17 s7 hn7
            go_wp2_with fail
            refine (S2.out).mono ?_
            rintro e w9 ⟨rfl, b⟩
            have X9 := Lib.hid (X8.out.trans (b.mono X8.out.size))
            clear b X8
            go_wp2_with fail
            refine (CD.out _).mono ?_
            rintro e w10 ⟨rfl, b⟩
            have X10 := Lib.hid (X9.out.trans (b.mono X9.out.size))
            clear b X9
            go_wp2_with fail
            refine (CB.out _).mono ?_
            rintro e w11 ⟨rfl, b⟩
            have X11 := Lib.hid (X10.out.trans (b.mono X10.out.size))
            clear b X10
            have SJ := Lib.hid (HS0.out.on X11.out)
            go_wp2_with fail
            refine (CJ.out _ SJ.out).mono ?_
            rintro e w12 ⟨rfl, b⟩
            have X12 := Lib.hid (X11.out.trans (b.mono X11.out.size))
            clear b X11
            go_wp2
            go_ret
            exact ⟨rfl, X12.out⟩
    | false =>
      subst hx0
      have hu0 : us.length = 0 := by rw [hul]; rfl
      have DD : Hid (toB (joinB ([] : List (List UInt8)).dropLast) = ⟨#[]⟩) := by show _ = _; decide +kernel
      have DB : Hid (toB (([] : List (List UInt8)).getLast?.getD []) = ⟨#[]⟩) := by show _ = _; decide +kernel
      have CD1 := CD0.out
      rw [DD.out] at CD1
      have CB1 := CB0.out
      rw [DB.out] at CB1
      have CD := Lib.hid CD1
      have CB := Lib.hid CB1
      clear CD1 CB1 DD DB CD0 CB0
      have hye : ¬ y = ls := of_decide_eq_false HDJ.out
      have CJ1 := CJ0.out
      rw [HJP.out, if_neg hye] at CJ1
      have CJ2 : ∀ (w : World), Strs w w.heap.size A0 (toBs ls) → Calls Tryd.prog 17 #[.slice A0 ls.length cap0] w fun e w' => e = .returned (.string ⟨#[]⟩) ∧ Below w.heap.size w w' := CJ1
      have CJ := Lib.hid CJ2
      clear CJ1 CJ2 CJ0 hye
      go_enter Tryd.func3, Tryd.ntmps3
      go_wp2
      go_loop [5] (fun iv => ∃ k : Nat, k ≤ ls.length ∧ iv = .int .i64 (k : Int)) (fun iv => ls.length - (intOf iv).toNat)
      case atStart => exact ⟨0, Nat.zero_le _, rfl⟩
      case round =>
        obtain ⟨k, hk, rfl⟩ := hrel
        by_cases hlt : k < ls.length
        · obtain ⟨g, off, rfl, _, hc⟩ := HS0.out.at_ (k := k) (by rw [toBs_len]; exact hlt)
          have e0 : (toBs ls)[k]'(by rw [toBs_len]; exact hlt) = toB ls[k] := by simp [toBs]
          rw [e0] at hc
          have hz := HLL.out k hlt
          clear e0
          generalize toB ls[k] = z at *
          go_wp2
          go_round
          case rel => exact ⟨k + 1, by omega, by go_num⟩
          case measure => simp [intOf] <;> omega
        · obtain rfl : k = ls.length := by omega
          have X0 : Hid (Below w.heap.size w w) := Below.refl _ _
          go_wp2_with fail
          refine (N1.out _).mono ?_
          rintro e w1 ⟨A1, k1, rfl, h1, b⟩
          have X1 := Lib.hid (X0.out.trans (b.mono X0.out.size))
          have T1 := Lib.hid h1.out.2
          have R1 := Lib.hid h1.out.1
          clear h1 b X0
          have SW := Lib.hid (HS0.out.on X1.out)
          have J2 := Lib.hid (join_left A0 cap0 _ ls rfl w1 SW.out (by omega) (by omega) Wt HWT.out)
          go_wp2_with fail
          refine J2.out.mono ?_
          rintro e wJ ⟨rfl, rfl⟩
          clear J2 SW
          go_wp2_with fail
          refine (NW.out _).mono ?_
          rintro e w2 ⟨A3, k3, rfl, h3, b⟩
          have X2 := Lib.hid (X1.out.trans (b.mono X1.out.size))
          have T12 := Lib.hid (T1.out.on b)
          have T3 := Lib.hid h3.out.2
          have SM := Lib.hid (rsame_b A3 A0 y ls k3 cap0 w2 _ HDJ.out T3.out (HS0.out.on X2.out) (by omega) (by omega))
          clear h3 b X1 T1
          go_wp2_with fail
          refine (SM.out).mono ?_
          rintro e w3 ⟨rfl, b⟩
          have X3 := Lib.hid (X2.out.trans (b.mono X2.out.size))
          have T13 := Lib.hid (T12.out.on b)
          clear b X2 T12 SM T3
          go_wp2_with fail
          refine (CU.out _).mono ?_
          rintro e w4 ⟨A5, k5, rfl, hn5, s5, b⟩
          have X4 := Lib.hid (X3.out.trans (b.mono X3.out.size))
          have T14 := Lib.hid (T13.out.on b)
          have S5 := Lib.hid s5
          clear b X3 T13 s5 hn5
          go_wp2
          go_loop [11] (fun iv => iv = .int .i64 0) (fun iv => 0)
          case atStart => rfl
          case round =>
            obtain rfl := hrel
            go_wp2_with fail
            refine (CA.out _).mono ?_
            rintro e w5 ⟨rfl, b⟩
            have X5 := Lib.hid (X4.out.trans (b.mono X4.out.size))
            have T15 := Lib.hid (T14.out.on b)
            clear b X4 T14
            have HI := Lib.hid (phigh_any (-1) 0)
            go_wp2_with fail
            refine (HI.out _).mono ?_
            rintro e wH ⟨rfl, rfl⟩
            have hmx : max (-1 : Int) 0 = 0 := by omega
            go_wp2_with fail
            refine (CR.out _).mono ?_
            rintro e w6 ⟨rfl, b⟩
            have X6 := Lib.hid (X5.out.trans (b.mono X5.out.size))
            have T16 := Lib.hid (T15.out.on b)
            clear b X5 T15
            go_wp2_with fail
            refine (RR.out _).mono ?_
            rintro e w7 ⟨rfl, b⟩
            have X7 := Lib.hid (X6.out.trans (b.mono X6.out.size))
            have T17 := Lib.hid (T16.out.on b)
            clear b X6 T16
            go_wp2_with fail
            refine (CS.out _).mono ?_
            rintro e w8 ⟨A7, k7, rfl, hn7, s7, b⟩
            have X8 := Lib.hid (X7.out.trans (b.mono X7.out.size))
            have T18 := Lib.hid (T17.out.on b)
            have S2 := Lib.hid (rsame_b A7 A1 ([] : List (List UInt8)) ([] : List (List UInt8)) k7 k1 w8 true (by simp) s7 T18.out (by simp) (by simp))
            clear b X7 T17 s7 hn7
            go_wp2_with fail
            refine (S2.out).mono ?_
            rintro e w9 ⟨rfl, b⟩
            have X9 := Lib.hid (X8.out.trans (b.mono X8.out.size))
            clear b X8
            go_wp2_with fail
            refine (CD.out _).mono ?_
            rintro e w10 ⟨rfl, b⟩
            have X10 := Lib.hid (X9.out.trans (b.mono X9.out.size))
            clear b X9
            go_wp2_with fail
            refine (CB.out _).mono ?_
            rintro e w11 ⟨rfl, b⟩
            have X11 := Lib.hid (X10.out.trans (b.mono X10.out.size))
            clear b X10
            have SJ := Lib.hid (HS0.out.on X11.out)
            go_wp2_with fail
            refine (CJ.out _ SJ.out).mono ?_
            rintro e w12 ⟨rfl, b⟩
            have X12 := Lib.hid (X11.out.trans (b.mono X11.out.size))
            clear b X11
            go_wp2
            go_ret
            exact ⟨rfl, X12.out⟩
  · cases dj with
    | true =>
      obtain ⟨m, hm⟩ : ∃ m, x.length = m + 1 := ⟨x.length - 1, by have := List.length_pos_iff.2 hx0; omega⟩
      have hm2 : m < x.length := by omega
      have e9 : x.length - 1 = m := by omega
      obtain ⟨Dr, hDr⟩ : ∃ D, toB (joinB (x.take m)) = D := ⟨_, rfl⟩
      obtain ⟨Bs, hBs⟩ : ∃ B, toB (x[m]'hm2) = B := ⟨_, rfl⟩
      have DD : Hid (toB (joinB x.dropLast) = Dr) := by show _ = _; rw [← hDr, List.dropLast_eq_take, e9]
      have DB : Hid (toB (x.getLast?.getD []) = Bs) := by
        show _ = _
        rw [← hBs, List.getLast?_eq_getElem?, e9, List.getElem?_eq_getElem hm2]
        rfl
      have CD1 := CD0.out
      rw [DD.out] at CD1
      have CB1 := CB0.out
      rw [DB.out] at CB1
      have CD := Lib.hid CD1
      have CB := Lib.hid CB1
      have HDR := Lib.hid hDr
      have HBS := Lib.hid hBs
      have e1 : (x.length : Int) - 1 = (m : Int) := by omega
      have hum1 : us.length ≤ m := by omega
      have hum2 : m ≤ us.length := by omega
      clear CD1 CB1 DD DB CD0 CB0 hDr hBs e9 hm hul
      have hye : y = ls := of_decide_eq_true HDJ.out
      have CJ1 := CJ0.out
      rw [HJP.out, if_pos hye, HWT.out] at CJ1
      have CJ := Lib.hid CJ1
      clear CJ1 CJ0 hye
      go_enter Tryd.func3, Tryd.ntmps3
      go_wp2
      go_loop [5] (fun iv => ∃ k : Nat, k ≤ ls.length ∧ iv = .int .i64 (k : Int)) (fun iv => ls.length - (intOf iv).toNat)
      case atStart => exact ⟨0, Nat.zero_le _, rfl⟩
      case round =>
        obtain ⟨k, hk, rfl⟩ := hrel
        by_cases hlt : k < ls.length
        · obtain ⟨g, off, rfl, _, hc⟩ := HS0.out.at_ (k := k) (by rw [toBs_len]; exact hlt)
          have e0 : (toBs ls)[k]'(by rw [toBs_len]; exact hlt) = toB ls[k] := by simp [toBs]
          rw [e0] at hc
          have hz := HLL.out k hlt
          clear e0
          generalize toB ls[k] = z at *
          go_wp2
          go_round
          case rel => exact ⟨k + 1, by omega, by go_num⟩
          case measure => simp [intOf] <;> omega
        · obtain rfl : k = ls.length := by omega
          have X0 : Hid (Below w.heap.size w w) := Below.refl _ _
          go_wp2_with fail
          refine (N1.out _).mono ?_
          rintro e w1 ⟨A1, k1, rfl, h1, b⟩
          have X1 := Lib.hid (X0.out.trans (b.mono X0.out.size))
          have T1 := Lib.hid h1.out.2
          have R1 := Lib.hid h1.out.1
          clear h1 b X0
          obtain ⟨A2, k2, ld, e2, p2, r2⟩ := part_of A1 x k1 0 m R1.out (Nat.zero_le _) (by omega)
          have r3 := fun w => r2 none (some (.int .i64 (m : Int))) w (.inr ⟨rfl, rfl⟩) (.inl rfl)
          have hldl : ld.length ≤ 16 := by rw [e2, List.length_take, List.length_drop]; omega
          have J1 := Lib.hid (join_left A2 k2 _ ld rfl w1 (p2.strs _ _ T1.out) (by omega) (by rw [e2, List.drop_zero, Nat.sub_zero]; have := JP.out m; omega) Dr (by rw [e2, List.drop_zero, Nat.sub_zero]; exact HDR.out))
          obtain ⟨g1, o1, hA1, _, c1⟩ := T1.out.at_ (k := m) (by rw [toBs_len]; omega)
          have e3 : (toBs x)[m]'(by rw [toBs_len]; omega) = toB (x[m]'hm2) := by simp [toBs]
          rw [e3, HBS.out] at c1
          subst hA1
          clear r2 e2 p2 e3
          go_wp2_with fail
          refine J1.out.mono ?_
          rintro e wJ ⟨rfl, rfl⟩
          clear J1 r3
          have SW := Lib.hid (HS0.out.on X1.out)
          have J2 := Lib.hid (join_left A0 cap0 _ ls rfl w1 SW.out (by omega) (by omega) Wt HWT.out)
          go_wp2_with fail
          refine J2.out.mono ?_
          rintro e wJ ⟨rfl, rfl⟩
          clear J2 SW
          go_wp2_with fail
          refine (NW.out _).mono ?_
          rintro e w2 ⟨A3, k3, rfl, h3, b⟩
          have X2 := Lib.hid (X1.out.trans (b.mono X1.out.size))
          have T12 := Lib.hid (T1.out.on b)
          have T3 := Lib.hid h3.out.2
          have SM := Lib.hid (rsame_b A3 A0 y ls k3 cap0 w2 _ HDJ.out T3.out (HS0.out.on X2.out) (by omega) (by omega))
          clear h3 b X1 T1
          go_wp2_with fail
          refine (SM.out).mono ?_
          rintro e w3 ⟨rfl, b⟩
          have X3 := Lib.hid (X2.out.trans (b.mono X2.out.size))
          have T13 := Lib.hid (T12.out.on b)
          clear b X2 T12 SM T3
          go_wp2_with fail
          refine (CU.out _).mono ?_
          rintro e w4 ⟨A5, k5, rfl, hn5, s5, b⟩
          have X4 := Lib.hid (X3.out.trans (b.mono X3.out.size))
          have T14 := Lib.hid (T13.out.on b)
          have S5 := Lib.hid s5
          clear b X3 T13 s5 hn5
          have hq1 : ((us.length : Int) != (m : Int)) = false := by simp; omega
          go_wp2
          go_loopw [11] (fun iv wr => ∃ k : Nat, k ≤ us.length ∧ iv = .int .i64 (k : Int) ∧ ∃ q, wr = w4.drewN q) (fun iv _ => us.length - (intOf iv).toNat)
          case atStart => exact ⟨0, Nat.zero_le _, rfl, 0, rfl⟩
          case round =>
            obtain ⟨k, hk, rfl, q, hwq⟩ := hrel
            have HWQ := Lib.hid hwq
            have T14q := Lib.hid (show Strs wr wr.heap.size (some ⟨g1, o1, none⟩) (toBs x) by rw [hwq]; exact T14.out)
            have S5q := Lib.hid (show Strs wr wr.heap.size A5 (toBs us) by rw [hwq]; exact S5.out)
            clear hwq
            by_cases hlt2 : k < us.length
            · obtain ⟨g5, o5, rfl, _, hc5⟩ := S5q.out.at_ (k := k) (by rw [toBs_len]; exact hlt2)
              have e5 : (toBs us)[k]'(by rw [toBs_len]; exact hlt2) = toB us[k] := by simp [toBs]
              obtain ⟨Uk, hUk⟩ : ∃ U, toB (joinB (x.take (k + 1))) = U := ⟨_, rfl⟩
              rw [e5, HUG.out k hlt2, hUk] at hc5
              obtain ⟨A6, k6, lk, e6, p6, r6⟩ := part_of (some ⟨g1, o1, none⟩) x k1 0 (k + 1) R1.out (Nat.zero_le _) (by omega)
              have r7 : ∀ w, (Instr.slice 22 (.slice (some ⟨g1, o1, none⟩) x.length k1) none (some (.int .i64 ((k : Int) + 1))) none).run Tryd.prog w = .ok (.slice A6 lk.length k6) w := fun w => by
                have := r6 none (some (.int .i64 ((k + 1 : Nat) : Int))) w (.inr ⟨rfl, rfl⟩) (.inl rfl)
                rwa [Int.natCast_add, Int.natCast_one] at this
              have i1 : IntKind.i64.wrap ((k : Int) + 1) = (k : Int) + 1 := IntWalk.i64_in _ (by omega)
              have hlk : lk.length ≤ 16 := by rw [e6, List.length_take, List.length_drop]; omega
              have JQ := Lib.hid (rjoin_qq A6 k6 _ lk rfl wr (p6.strs _ _ T14q.out) (by omega) (by rw [e6, List.drop_zero, Nat.sub_zero]; have := JP.out (k + 1); omega) Uk (by rw [e6, List.drop_zero, Nat.sub_zero]; exact hUk))
              clear e5 e6 p6 r6 hUk
              have i0 : IntKind.i64.wrap ((x.length : Int) - 1) = (m : Int) := (IntWalk.i64_in _ (by omega)).trans e1
              have i3 : IntKind.i64.wrap (m : Int) = (m : Int) := IntWalk.i64_in _ (by omega)
              have hq6 : ((us.length : Int) != (m : Int)) = false := by simp; omega
              have hq4 : decide ((us.length : Int) = (m : Int)) = true := by simp; omega
              have hq5 : ((us.length : Int) == (m : Int)) = true := by simp; omega
              have hq7 : (us.length != m) = false := by simp; omega
              have hq8 : (us.length == m) = true := by simp; omega
              go_wp2
              go_quiet ((go_at_call 8; with_reducible exact JQ.out _))
              go_wp2
              go_roundw
              case rel => exact ⟨k + 1, by omega, by go_num, _, by rw [HWQ.out]; exact World.drewN_drewN _ _ _⟩
              case measure => simp [intOf] <;> omega
            · obtain rfl : k = us.length := by omega
              have X5 := Lib.hid (show Below w.heap.size w wr by rw [HWQ.out]; exact below_drewN X4.out q)
              have T15 := T14q
              clear X4 T14 T14q S5q HWQ
              obtain ⟨w5, rfl⟩ : ∃ w5 : World, w5 = wr := ⟨_, rfl⟩
              go_wp2_with fail
              refine (CA.out _).mono ?_
              rintro e w6 ⟨rfl, b⟩
              have X6 := Lib.hid (X5.out.trans (b.mono X5.out.size))
              have T16 := Lib.hid (T15.out.on b)
              clear b X5 T15
              have HI := Lib.hid (phigh_any ((m : Int)) 0)
              go_wp2_with fail
              refine (HI.out _).mono ?_
              rintro e wH ⟨rfl, rfl⟩
              have hmx : max ((m : Int) : Int) 0 = (m : Int) := by omega
              have hq2 : ((us.length : Int) == (m : Int)) = true := by simp; omega
              go_wp2_with fail
              refine (CR.out _).mono ?_
              rintro e w7 ⟨rfl, b⟩
              have X7 := Lib.hid (X6.out.trans (b.mono X6.out.size))
              have T17 := Lib.hid (T16.out.on b)
              clear b X6 T16
              go_wp2_with fail
              refine (RR.out _).mono ?_
              rintro e w8 ⟨rfl, b⟩
              have X8 := Lib.hid (X7.out.trans (b.mono X7.out.size))
              have T18 := Lib.hid (T17.out.on b)
              clear b X7 T17
              go_wp2_with fail
              refine (CS.out _).mono ?_
              rintro e w9 ⟨A7, k7, rfl, hn7, s7, b⟩
              have X9 := Lib.hid (X8.out.trans (b.mono X8.out.size))
              have T19 := Lib.hid (T18.out.on b)
              have S2 := Lib.hid (rsame_b A7 (some ⟨g1, o1, none⟩) x x k7 k1 w9 true (by simp) s7 T19.out (by omega) (by omega))
              clear b X8 T18 s7 hn7
              go_wp2_with fail
              refine (S2.out).mono ?_
              rintro e w10 ⟨rfl, b⟩
              have X10 := Lib.hid (X9.out.trans (b.mono X9.out.size))
              clear b X9
              go_wp2_with fail
              refine (CD.out _).mono ?_
              rintro e w11 ⟨rfl, b⟩
              have X11 := Lib.hid (X10.out.trans (b.mono X10.out.size))
              clear b X10
              go_wp2_with fail
              refine (CB.out _).mono ?_
              rintro e w12 ⟨rfl, b⟩
              have X12 := Lib.hid (X11.out.trans (b.mono X11.out.size))
              clear b X11
              have SJ := Lib.hid (HS0.out.on X12.out)
              go_wp2_with fail
              refine (CJ.out _ SJ.out).mono ?_
              rintro e w13 ⟨rfl, b⟩
              have X13 := Lib.hid (X12.out.trans (b.mono X12.out.size))
              clear b X12
              go_wp2
              go_ret
              exact ⟨rfl, X13.out⟩
    | false =>
      obtain ⟨m, hm⟩ : ∃ m, x.length = m + 1 := ⟨x.length - 1, by have := List.length_pos_iff.2 hx0; omega⟩
      have hm2 : m < x.length := by omega
      have e9 : x.length - 1 = m := by omega
      obtain ⟨Dr, hDr⟩ : ∃ D, toB (joinB (x.take m)) = D := ⟨_, rfl⟩
      obtain ⟨Bs, hBs⟩ : ∃ B, toB (x[m]'hm2) = B := ⟨_, rfl⟩
      have DD : Hid (toB (joinB x.dropLast) = Dr) := by show _ = _; rw [← hDr, List.dropLast_eq_take, e9]
      have DB : Hid (toB (x.getLast?.getD []) = Bs) := by
        show _ = _
        rw [← hBs, List.getLast?_eq_getElem?, e9, List.getElem?_eq_getElem hm2]
        rfl
      have CD1 := CD0.out
      rw [DD.out] at CD1
      have CB1 := CB0.out
      rw [DB.out] at CB1
      have CD := Lib.hid CD1
      have CB := Lib.hid CB1
      have HDR := Lib.hid hDr
      have HBS := Lib.hid hBs
      have e1 : (x.length : Int) - 1 = (m : Int) := by omega
      have hum1 : us.length ≤ m := by omega
      have hum2 : m ≤ us.length := by omega
      clear CD1 CB1 DD DB CD0 CB0 hDr hBs e9 hm hul
      have hye : ¬ y = ls := of_decide_eq_false HDJ.out
      have CJ1 := CJ0.out
      rw [HJP.out, if_neg hye] at CJ1
      have CJ2 : ∀ (w : World), Strs w w.heap.size A0 (toBs ls) → Calls Tryd.prog 17 #[.slice A0 ls.length cap0] w fun e w' => e = .returned (.string ⟨#[]⟩) ∧ Below w.heap.size w w' := CJ1
      have CJ := Lib.hid CJ2
      clear CJ1 CJ2 CJ0 hye
      go_enter Tryd.func3, Tryd.ntmps3
      go_wp2
      go_loop [5] (fun iv => ∃ k : Nat, k ≤ ls.length ∧ iv = .int .i64 (k : Int)) (fun iv => ls.length - (intOf iv).toNat)
      case atStart => exact ⟨0, Nat.zero_le _, rfl⟩
      case round =>
        obtain ⟨k, hk, rfl⟩ := hrel
        by_cases hlt : k < ls.length
        · obtain ⟨g, off, rfl, _, hc⟩ := HS0.out.at_ (k := k) (by rw [toBs_len]; exact hlt)
          have e0 : (toBs ls)[k]'(by rw [toBs_len]; exact hlt) = toB ls[k] := by simp [toBs]
          rw [e0] at hc
          have hz := HLL.out k hlt
          clear e0
          generalize toB ls[k] = z at *
          go_wp2
          go_round
          case rel => exact ⟨k + 1, by omega, by go_num⟩
          case measure => simp [intOf] <;> omega
        · obtain rfl : k = ls.length := by omega
          have X0 : Hid (Below w.heap.size w w) := Below.refl _ _
          go_wp2_with fail
          refine (N1.out _).mono ?_
          rintro e w1 ⟨A1, k1, rfl, h1, b⟩
          have X1 := Lib.hid (X0.out.trans (b.mono X0.out.size))
          have T1 := Lib.hid h1.out.2
          have R1 := Lib.hid h1.out.1
          clear h1 b X0
          obtain ⟨A2, k2, ld, e2, p2, r2⟩ := part_of A1 x k1 0 m R1.out (Nat.zero_le _) (by omega)
          have r3 := fun w => r2 none (some (.int .i64 (m : Int))) w (.inr ⟨rfl, rfl⟩) (.inl rfl)
          have hldl : ld.length ≤ 16 := by rw [e2, List.length_take, List.length_drop]; omega
          have J1 := Lib.hid (join_left A2 k2 _ ld rfl w1 (p2.strs _ _ T1.out) (by omega) (by rw [e2, List.drop_zero, Nat.sub_zero]; have := JP.out m; omega) Dr (by rw [e2, List.drop_zero, Nat.sub_zero]; exact HDR.out))
          obtain ⟨g1, o1, hA1, _, c1⟩ := T1.out.at_ (k := m) (by rw [toBs_len]; omega)
          have e3 : (toBs x)[m]'(by rw [toBs_len]; omega) = toB (x[m]'hm2) := by simp [toBs]
          rw [e3, HBS.out] at c1
          subst hA1
          clear r2 e2 p2 e3
          go_wp2_with fail
          refine J1.out.mono ?_
          rintro e wJ ⟨rfl, rfl⟩
          clear J1 r3
          have SW := Lib.hid (HS0.out.on X1.out)
          have J2 := Lib.hid (join_left A0 cap0 _ ls rfl w1 SW.out (by omega) (by omega) Wt HWT.out)
          go_wp2_with fail
          refine J2.out.mono ?_
          rintro e wJ ⟨rfl, rfl⟩
          clear J2 SW
          go_wp2_with fail
          refine (NW.out _).mono ?_
          rintro e w2 ⟨A3, k3, rfl, h3, b⟩
          have X2 := Lib.hid (X1.out.trans (b.mono X1.out.size))
          have T12 := Lib.hid (T1.out.on b)
          have T3 := Lib.hid h3.out.2
          have SM := Lib.hid (rsame_b A3 A0 y ls k3 cap0 w2 _ HDJ.out T3.out (HS0.out.on X2.out) (by omega) (by omega))
          clear h3 b X1 T1
          go_wp2_with fail
          refine (SM.out).mono ?_
          rintro e w3 ⟨rfl, b⟩
          have X3 := Lib.hid (X2.out.trans (b.mono X2.out.size))
          have T13 := Lib.hid (T12.out.on b)
          clear b X2 T12 SM T3
          go_wp2_with fail
          refine (CU.out _).mono ?_
          rintro e w4 ⟨A5, k5, rfl, hn5, s5, b⟩
          have X4 := Lib.hid (X3.out.trans (b.mono X3.out.size))
          have T14 := Lib.hid (T13.out.on b)
          have S5 := Lib.hid s5
          clear b X3 T13 s5 hn5
          have hq1 : ((us.length : Int) != (m : Int)) = false := by simp; omega
          go_wp2
          go_loopw [11] (fun iv wr => ∃ k : Nat, k ≤ us.length ∧ iv = .int .i64 (k : Int) ∧ ∃ q, wr = w4.drewN q) (fun iv _ => us.length - (intOf iv).toNat)
          case atStart => exact ⟨0, Nat.zero_le _, rfl, 0, rfl⟩
          case round =>
            obtain ⟨k, hk, rfl, q, hwq⟩ := hrel
            have HWQ := Lib.hid hwq
            have T14q := Lib.hid (show Strs wr wr.heap.size (some ⟨g1, o1, none⟩) (toBs x) by rw [hwq]; exact T14.out)
            have S5q := Lib.hid (show Strs wr wr.heap.size A5 (toBs us) by rw [hwq]; exact S5.out)
            clear hwq
            by_cases hlt2 : k < us.length
            · obtain ⟨g5, o5, rfl, _, hc5⟩ := S5q.out.at_ (k := k) (by rw [toBs_len]; exact hlt2)
              have e5 : (toBs us)[k]'(by rw [toBs_len]; exact hlt2) = toB us[k] := by simp [toBs]
              obtain ⟨Uk, hUk⟩ : ∃ U, toB (joinB (x.take (k + 1))) = U := ⟨_, rfl⟩
              rw [e5, HUG.out k hlt2, hUk] at hc5
              obtain ⟨A6, k6, lk, e6, p6, r6⟩ := part_of (some ⟨g1, o1, none⟩) x k1 0 (k + 1) R1.out (Nat.zero_le _) (by omega)
              have r7 : ∀ w, (Instr.slice 22 (.slice (some ⟨g1, o1, none⟩) x.length k1) none (some (.int .i64 ((k : Int) + 1))) none).run Tryd.prog w = .ok (.slice A6 lk.length k6) w := fun w => by
                have := r6 none (some (.int .i64 ((k + 1 : Nat) : Int))) w (.inr ⟨rfl, rfl⟩) (.inl rfl)
                rwa [Int.natCast_add, Int.natCast_one] at this
              have i1 : IntKind.i64.wrap ((k : Int) + 1) = (k : Int) + 1 := IntWalk.i64_in _ (by omega)
              have hlk : lk.length ≤ 16 := by rw [e6, List.length_take, List.length_drop]; omega
              have JQ := Lib.hid (rjoin_qq A6 k6 _ lk rfl wr (p6.strs _ _ T14q.out) (by omega) (by rw [e6, List.drop_zero, Nat.sub_zero]; have := JP.out (k + 1); omega) Uk (by rw [e6, List.drop_zero, Nat.sub_zero]; exact hUk))
              clear e5 e6 p6 r6 hUk
              have i0 : IntKind.i64.wrap ((x.length : Int) - 1) = (m : Int) := (IntWalk.i64_in _ (by omega)).trans e1
              have i3 : IntKind.i64.wrap (m : Int) = (m : Int) := IntWalk.i64_in _ (by omega)
              have hq6 : ((us.length : Int) != (m : Int)) = false := by simp; omega
              have hq4 : decide ((us.length : Int) = (m : Int)) = true := by simp; omega
              have hq5 : ((us.length : Int) == (m : Int)) = true := by simp; omega
              have hq7 : (us.length != m) = false := by simp; omega
              have hq8 : (us.length == m) = true := by simp; omega
              go_wp2
              go_quiet ((go_at_call 8; with_reducible exact JQ.out _))
              go_wp2
              go_roundw
              case rel => exact ⟨k + 1, by omega, by go_num, _, by rw [HWQ.out]; exact World.drewN_drewN _ _ _⟩
              case measure => simp [intOf] <;> omega
            · obtain rfl : k = us.length := by omega
              have X5 := Lib.hid (show Below w.heap.size w wr by rw [HWQ.out]; exact below_drewN X4.out q)
              have T15 := T14q
              clear X4 T14 T14q S5q HWQ
              obtain ⟨w5, rfl⟩ : ∃ w5 : World, w5 = wr := ⟨_, rfl⟩
              go_wp2_with fail
              refine (CA.out _).mono ?_
              rintro e w6 ⟨rfl, b⟩
              have X6 := Lib.hid (X5.out.trans (b.mono X5.out.size))
              have T16 := Lib.hid (T15.out.on b)
              clear b X5 T15
              have HI := Lib.hid (phigh_any ((m : Int)) 0)
              go_wp2_with fail
              refine (HI.out _).mono ?_
              rintro e wH ⟨rfl, rfl⟩
              have hmx : max ((m : Int) : Int) 0 = (m : Int) := by omega
              have hq2 : ((us.length : Int) == (m : Int)) = true := by simp; omega
              go_wp2_with fail
              refine (CR.out _).mono ?_
              rintro e w7 ⟨rfl, b⟩
              have X7 := Lib.hid (X6.out.trans (b.mono X6.out.size))
              have T17 := Lib.hid (T16.out.on b)
              clear b X6 T16
              go_wp2_with fail
              refine (RR.out _).mono ?_
              rintro e w8 ⟨rfl, b⟩
              have X8 := Lib.hid (X7.out.trans (b.mono X7.out.size))
              have T18 := Lib.hid (T17.out.on b)
              clear b X7 T17
              go_wp2_with fail
              refine (CS.out _).mono ?_
              rintro e w9 ⟨A7, k7, rfl, hn7, s7, b⟩
              have X9 := Lib.hid (X8.out.trans (b.mono X8.out.size))
              have T19 := Lib.hid (T18.out.on b)
              have S2 := Lib.hid (rsame_b A7 (some ⟨g1, o1, none⟩) x x k7 k1 w9 true (by simp) s7 T19.out (by omega) (by omega))
              clear b X8 T18 s7 hn7
              go_wp2_with fail
              refine (S2.out).mono ?_
              rintro e w10 ⟨rfl, b⟩
              have X10 := Lib.hid (X9.out.trans (b.mono X9.out.size))
              clear b X9
              go_wp2_with fail
              refine (CD.out _).mono ?_
              rintro e w11 ⟨rfl, b⟩
              have X11 := Lib.hid (X10.out.trans (b.mono X10.out.size))
              clear b X10
              go_wp2_with fail
              refine (CB.out _).mono ?_
              rintro e w12 ⟨rfl, b⟩
              have X12 := Lib.hid (X11.out.trans (b.mono X11.out.size))
              clear b X11
              have SJ := Lib.hid (HS0.out.on X12.out)
              go_wp2_with fail
              refine (CJ.out _ SJ.out).mono ?_
              rintro e w13 ⟨rfl, b⟩
              have X13 := Lib.hid (X12.out.trans (b.mono X12.out.size))
              clear b X12
              go_wp2
              go_ret
              exact ⟨rfl, X13.out⟩
set_option maxHeartbeats 2000000 in
set_option maxRecDepth 100000 in
theorem pathparts_any (c : PathC) (J : JoinC) (p : ByteArray) (A0 : Option Addr) (ss : List ByteArray) (cap0 : Nat) (w : World) (hp : p.size ≤ 9223372036854775807) (hs0 : Strs w w.heap.size A0 ss) (hn : ss.length ≤ 9223372036854775807) (hr0 : Room A0 ss.length cap0) :
    Calls Tryd.prog 3 #[.string p, .slice A0 ss.length cap0] w fun e w' => e = .returned (.bool true) ∧ Below w.heap.size w w' := by
  obtain ⟨ls, rfl⟩ : ∃ ls, ss = toBs ls := ⟨lists ss, (toBs_lists ss).symm⟩
  rw [toBs_len] at hn hr0 ⊢
  have CA := Lib.hid (pawake_any c)
  by_cases h1 : 400 < p.size
  · clear hs0 hr0
    go_enter Tryd.func3, Tryd.ntmps3
    go_wp2_with fail
    refine (CA.out _).mono ?_
    rintro e w1 ⟨rfl, b1⟩
    go_wp2
    go_ret
    exact ⟨rfl, b1⟩
  · have hp4 : p.size ≤ 400 := by omega
    have q1 : ¬ (400 : Int) < (p.size : Int) := by omega
    by_cases h2 : 20 < ls.length
    · have q2 : (20 : Int) < (ls.length : Int) := by omega
      clear hs0 hr0 h1
      go_enter Tryd.func3, Tryd.ntmps3
      go_wp2_with fail
      refine (CA.out _).mono ?_
      rintro e w1 ⟨rfl, b1⟩
      go_wp2
      go_ret
      exact ⟨rfl, b1⟩
    · have hl4 : ls.length ≤ 20 := by omega
      by_cases h3 : ∀ x ∈ ls, x.length ≤ 100
      · exact pathparts_light c J p A0 ls cap0 w hp4 hs0 hr0 hl4 h3
      · have q2 : ¬ (20 : Int) < (ls.length : Int) := by omega
        have HS0 := Lib.hid hs0
        have H3 := Lib.hid h3
        clear hs0 hr0 h1 h2 h3
        go_enter Tryd.func3, Tryd.ntmps3
        go_wp2
        go_loop [5] (fun iv => ∃ k : Nat, k ≤ ls.length ∧ iv = .int .i64 (k : Int) ∧ Hid (∀ j (h : j < ls.length), j < k → ls[j].length ≤ 100)) (fun iv => ls.length - (intOf iv).toNat)
        case atStart => exact ⟨0, Nat.zero_le _, rfl, fun j _ h => absurd h (by omega)⟩
        case round =>
          obtain ⟨k, hk, rfl, hall⟩ := hrel
          by_cases hlt : k < ls.length
          · obtain ⟨g, off, rfl, _, hc⟩ := HS0.out.at_ (k := k) (by rw [toBs_len]; exact hlt)
            have e0 : (toBs ls)[k]'(by rw [toBs_len]; exact hlt) = toB ls[k] := by simp [toBs]
            rw [e0] at hc
            have ez : (toB ls[k]).size = ls[k].length := by simp [toB, ByteArray.size]
            by_cases hz : ls[k].length ≤ 100
            · have hall2 : Hid (∀ j (h : j < ls.length), j < k + 1 → ls[j].length ≤ 100) := by
                intro j h hjk
                by_cases e : j = k
                · subst e; exact hz
                · exact hall.out j h (by omega)
              have hz2 : (toB ls[k]).size ≤ 100 := by omega
              clear e0 ez hz hall
              generalize toB ls[k] = z at *
              go_wp2
              go_round
              case rel => exact ⟨k + 1, by omega, by go_num, hall2⟩
              case measure => simp [intOf] <;> omega
            · have hz2 : 100 < (toB ls[k]).size := by omega
              clear e0 ez hz hall
              generalize toB ls[k] = z at *
              go_wp2_with fail
              refine (CA.out _).mono ?_
              rintro e w1 ⟨rfl, b1⟩
              go_wp2
              go_ret
              exact ⟨rfl, b1⟩
          · exfalso
            apply H3.out
            intro x hx
            obtain ⟨j, hj, rfl⟩ := List.getElem_of_mem hx
            exact hall.out j hj (by omega)
end Go.Proofs.YthonklioandplaaDoor
