
/- The statement LinesFinds: its walk. -/
import Derived.Test.YtokkkjgdfnkjoaaDoorLineTexts
namespace Go.Proofs.YtokkkjgdfnkjoaaDoor
open Go.RowKit
set_option linter.unusedVariables false

/-- The least place behind n (from 'from' on) where lines stand, or -1. -/
def Behind (la lc : List (List UInt8)) (fr n v : Int) : Prop :=
  (v = -1 ∧ ∀ j : Nat, n < j → fr ≤ j → atB la lc j = false) ∨ ∃ k : Nat, v = k ∧ n < k ∧ fr ≤ k ∧ atB la lc k = true ∧ ∀ j : Nat, j < k → n < j → fr ≤ j → atB la lc j = false
theorem behind_start (la lc : List (List UInt8)) (fr : Int) : Behind la lc fr la.length (-1) := .inl ⟨rfl, fun j hj _ => atB_far (by omega)⟩
theorem behind_yes {la lc : List (List UInt8)} {fr n v : Int} (h : Behind la lc fr n v) (h0 : 0 ≤ n) (hf : fr ≤ n) (ha : atB la lc n = true) : Behind la lc fr (n - 1) n := by
  obtain ⟨k, rfl⟩ : ∃ k : Nat, n = (k : Int) := ⟨n.toNat, by omega⟩
  exact .inr ⟨k, rfl, by omega, hf, ha, fun j h1 h2 _ => by omega⟩
theorem behind_no {la lc : List (List UInt8)} {fr n v : Int} (h : Behind la lc fr n v) (h0 : 0 ≤ n) (ha : atB la lc n = false) : Behind la lc fr (n - 1) v := by
  obtain ⟨k, rfl⟩ : ∃ k : Nat, n = (k : Int) := ⟨n.toNat, by omega⟩
  rcases h with ⟨rfl, h⟩ | ⟨m, rfl, h1, h2, h3, h⟩
  · refine .inl ⟨rfl, fun j hj hf => ?_⟩
    by_cases e : j = k
    · subst e; exact ha
    · exact h j (by omega) hf
  · refine .inr ⟨m, rfl, by omega, h2, h3, fun j hj hn hf => ?_⟩
    by_cases e : j = k
    · subst e; exact ha
    · exact h j hj (by omega) hf
theorem behind_end {la lc : List (List UInt8)} {fr n v : Int} (h : Behind la lc fr n v) (hn : n < 0 ∨ n < fr) : IsFind la lc fr v := by
  rcases h with ⟨rfl, h⟩ | ⟨m, rfl, h1, h2, h3, h⟩
  · exact .inl ⟨rfl, fun j hf => h j (by omega) hf⟩
  · exact .inr ⟨m, rfl, h2, h3, fun j hj hf => h j hj (by omega) hf⟩

section
variable (A A2 : Option Addr) (la lc : List (List UInt8)) (cap cap2 : Nat) (fr : Int) (s : ByteArray) (w : World)

set_option maxRecDepth 100000 in
theorem finds_dark1 (hs : Strs w w.heap.size A (toBs la)) (ht : Strs w w.heap.size A2 (toBs lc)) (hn : la.length ≤ 9223372036854775807) (hn2 : lc.length ≤ 9223372036854775807) (hz : s.size ≤ 9223372036854775807) (hT : Tabs w) (h1 : light3B (toBs la) = false) :
    Calls Tryd.prog 5 #[.agg #[.slice A la.length cap, .slice A2 lc.length cap2, .int .i64 fr, .string s]] w fun e w' => e = .returned (.bool true) ∧ Below w.heap.size w w' := by
  have HT := Lib.hid hT
  have HS := Lib.hid hs
  have HS2 := Lib.hid ht
  have L1 := Lib.hid (fun w1 (hb : Below w.heap.size w w1) => light_l A la cap w1 (HS.out.on hb) hn)
  have L2 := Lib.hid (fun w1 (hb : Below w.heap.size w w1) => light_l A2 lc cap2 w1 (HS2.out.on hb) hn2)
  rw [h1] at L1
  clear h1
  have hb0 := Lib.hid (fun nq : Nat => below_drewN ((Below.refl _ w).alloc (Nat.le_refl _) (.cells #[.slice A la.length cap, .slice A2 lc.length cap2, .int .i64 fr, .string s] 37)) nq)
  clear hT hs ht
  go_enter Tryd.func5, Tryd.ntmps5
  go_wp2_with fail
  go_quiet (fail)
  have hb1 := hb0.out nq
  generalize (World.alloc _ _).drewN nq = w1 at hb1 ⊢
  clear hb0
  go_wp2_with fail
  refine (L1.out w1 hb1).mono ?_
  rintro e w2 ⟨rfl, rfl⟩
  go_wp2_with fail
  refine (awake3_any w1 (HT.out.on hb1)).mono ?_
  rintro e w2 ⟨rfl, hb⟩
  have hb2 := hb1.trans (hb.mono hb1.size)
  clear hb
  go_wp2
  go_ret
  exact ⟨rfl, hb2⟩

set_option maxRecDepth 100000 in
theorem finds_dark2 (hs : Strs w w.heap.size A (toBs la)) (ht : Strs w w.heap.size A2 (toBs lc)) (hn : la.length ≤ 9223372036854775807) (hn2 : lc.length ≤ 9223372036854775807) (hz : s.size ≤ 9223372036854775807) (hT : Tabs w) (h1 : light3B (toBs la) = true) (h2 : light3B (toBs lc) = false) :
    Calls Tryd.prog 5 #[.agg #[.slice A la.length cap, .slice A2 lc.length cap2, .int .i64 fr, .string s]] w fun e w' => e = .returned (.bool true) ∧ Below w.heap.size w w' := by
  have HT := Lib.hid hT
  have HS := Lib.hid hs
  have HS2 := Lib.hid ht
  have L1 := Lib.hid (fun w1 (hb : Below w.heap.size w w1) => light_l A la cap w1 (HS.out.on hb) hn)
  have L2 := Lib.hid (fun w1 (hb : Below w.heap.size w w1) => light_l A2 lc cap2 w1 (HS2.out.on hb) hn2)
  rw [h1] at L1
  rw [h2] at L2
  clear h1 h2
  have hb0 := Lib.hid (fun nq : Nat => below_drewN ((Below.refl _ w).alloc (Nat.le_refl _) (.cells #[.slice A la.length cap, .slice A2 lc.length cap2, .int .i64 fr, .string s] 37)) nq)
  clear hT hs ht
  go_enter Tryd.func5, Tryd.ntmps5
  go_wp2_with fail
  go_quiet (fail)
  have hb1 := hb0.out nq
  generalize (World.alloc _ _).drewN nq = w1 at hb1 ⊢
  clear hb0
  go_wp2_with fail
  refine (L1.out w1 hb1).mono ?_
  rintro e w2 ⟨rfl, rfl⟩
  go_wp2_with fail
  refine (L2.out w1 hb1).mono ?_
  rintro e w2 ⟨rfl, rfl⟩
  go_wp2_with fail
  refine (awake3_any w1 (HT.out.on hb1)).mono ?_
  rintro e w2 ⟨rfl, hb⟩
  have hb2 := hb1.trans (hb.mono hb1.size)
  clear hb
  go_wp2
  go_ret
  exact ⟨rfl, hb2⟩

set_option maxRecDepth 100000 in
theorem finds_dark3 (hs : Strs w w.heap.size A (toBs la)) (ht : Strs w w.heap.size A2 (toBs lc)) (hn : la.length ≤ 9223372036854775807) (hn2 : lc.length ≤ 9223372036854775807) (hz : s.size ≤ 9223372036854775807) (hT : Tabs w) (h1 : light3B (toBs la) = true) (h2 : light3B (toBs lc) = true) (h3 : 300 < s.size) :
    Calls Tryd.prog 5 #[.agg #[.slice A la.length cap, .slice A2 lc.length cap2, .int .i64 fr, .string s]] w fun e w' => e = .returned (.bool true) ∧ Below w.heap.size w w' := by
  have HT := Lib.hid hT
  have HS := Lib.hid hs
  have HS2 := Lib.hid ht
  have L1 := Lib.hid (fun w1 (hb : Below w.heap.size w w1) => light_l A la cap w1 (HS.out.on hb) hn)
  have L2 := Lib.hid (fun w1 (hb : Below w.heap.size w w1) => light_l A2 lc cap2 w1 (HS2.out.on hb) hn2)
  rw [h1] at L1
  rw [h2] at L2
  clear h1 h2
  have hb0 := Lib.hid (fun nq : Nat => below_drewN ((Below.refl _ w).alloc (Nat.le_refl _) (.cells #[.slice A la.length cap, .slice A2 lc.length cap2, .int .i64 fr, .string s] 37)) nq)
  clear hT hs ht
  go_enter Tryd.func5, Tryd.ntmps5
  go_wp2_with fail
  go_quiet (fail)
  have hb1 := hb0.out nq
  generalize (World.alloc _ _).drewN nq = w1 at hb1 ⊢
  clear hb0
  go_wp2_with fail
  refine (L1.out w1 hb1).mono ?_
  rintro e w2 ⟨rfl, rfl⟩
  go_wp2_with fail
  refine (L2.out w1 hb1).mono ?_
  rintro e w2 ⟨rfl, rfl⟩
  go_wp2_with fail
  refine (awake3_any w1 (HT.out.on hb1)).mono ?_
  rintro e w2 ⟨rfl, hb⟩
  have hb2 := hb1.trans (hb.mono hb1.size)
  clear hb
  go_wp2
  go_ret
  exact ⟨rfl, hb2⟩

set_option maxRecDepth 100000 in
theorem finds_light (hs : Strs w w.heap.size A (toBs la)) (ht : Strs w w.heap.size A2 (toBs lc)) (hn : la.length ≤ 9223372036854775807) (hn2 : lc.length ≤ 9223372036854775807) (hz : s.size ≤ 9223372036854775807) (hT : Tabs w) (hR : Room A la.length cap) (hf1 : -9223372036854775808 ≤ fr) (hf2 : fr ≤ 9223372036854775807) (h1 : light3B (toBs la) = true) (h2 : light3B (toBs lc) = true) (h3 : s.size ≤ 300) :
    Calls Tryd.prog 5 #[.agg #[.slice A la.length cap, .slice A2 lc.length cap2, .int .i64 fr, .string s]] w fun e w' => e = .returned (.bool true) ∧ Below w.heap.size w w' := by
  have hla := (light3_facts h1).1
  have hlc := (light3_facts h2).1
  have HT := Lib.hid hT
  have HS := Lib.hid hs
  have HS2 := Lib.hid ht
  have L1 := Lib.hid (fun w1 (hb : Below w.heap.size w w1) => light_l A la cap w1 (HS.out.on hb) hn)
  have L2 := Lib.hid (fun w1 (hb : Below w.heap.size w w1) => light_l A2 lc cap2 w1 (HS2.out.on hb) hn2)
  rw [h1] at L1
  rw [h2] at L2
  have HR := Lib.hid hR
  clear h1 h2 hR
  have hb0 := Lib.hid (fun nq : Nat => below_drewN ((Below.refl _ w).alloc (Nat.le_refl _) (.cells #[.slice A la.length cap, .slice A2 lc.length cap2, .int .i64 fr, .string s] 37)) nq)
  clear hT hs ht
  go_enter Tryd.func5, Tryd.ntmps5
  go_wp2_with fail
  go_quiet (fail)
  have hb1 := hb0.out nq
  generalize (World.alloc _ _).drewN nq = w1 at hb1 ⊢
  clear hb0
  go_wp2_with fail
  refine (L1.out w1 hb1).mono ?_
  rintro e w2 ⟨rfl, rfl⟩
  go_wp2_with fail
  refine (L2.out w1 hb1).mono ?_
  rintro e w2 ⟨rfl, rfl⟩
  go_wp2_with fail
  refine (lfind_any A A2 la lc cap cap2 fr w1 (HS.out.on hb1) (HS2.out.on hb1) (by omega) (by omega) HR.out hf1 hf2).mono ?_
  rintro e w2 ⟨v, rfl, hv, q, rfl⟩
  have hb2 := below_drewN hb1 q
  have HV := Lib.hid hv
  generalize w1.drewN q = w3 at hb2 ⊢
  clear hv hb1
  go_wp2
  go_loopw [8, 9] (fun x i wr => ∃ (n u : Int), i = .int .i64 n ∧ x = .int .i64 u ∧ -1 ≤ n ∧ n ≤ la.length ∧ Hid (Behind la lc fr n u) ∧ Below w.heap.size w wr) (fun _ i _ => (intOf i + 1).toNat)
  case atStart => exact ⟨(la.length : Int), -1, rfl, rfl, by omega, by omega, behind_start la lc fr, hb2⟩
  case round =>
    obtain ⟨n, u, rfl, rfl, hn0, hn1, hbh, hb⟩ := hrel
    clear hb2
    by_cases hgo : 0 ≤ n ∧ fr ≤ n
    · obtain ⟨g1, g2⟩ := hgo
      have hat := Lib.hid (refat_any A A2 la lc cap cap2 n wr (HS.out.on hb) (HS2.out.on hb) (by omega) (by omega) (by omega) (by omega))
      cases ha : atB la lc n with
      | true =>
        have hnew : Hid (Behind la lc fr (n - 1) n) := behind_yes hbh.out g1 g2 ha
        rw [ha] at hat
        clear ha hbh
        go_wp2_with fail
        refine hat.out.mono ?_
        rintro e w4 ⟨rfl, hb4⟩
        have hb5 := hb.trans (hb4.mono hb.size)
        clear hb4 hb
        go_wp2
        go_roundw
        case rel => exact ⟨n - 1, n, rfl, rfl, by omega, by omega, hnew.out, hb5⟩
        case measure => simp [intOf]; omega
      | false =>
        have hnew : Hid (Behind la lc fr (n - 1) u) := behind_no hbh.out g1 ha
        rw [ha] at hat
        clear ha hbh
        go_wp2_with fail
        refine hat.out.mono ?_
        rintro e w4 ⟨rfl, hb4⟩
        have hb5 := hb.trans (hb4.mono hb.size)
        clear hb4 hb
        go_wp2
        go_roundw
        case rel => exact ⟨n - 1, u, rfl, rfl, by omega, by omega, hnew.out, hb5⟩
        case measure => simp [intOf]; omega
    · have hfin := behind_end hbh.out (by omega)
      obtain rfl := hfin.uniq HV.out
      have cs := fun w1 (hb : Below w.heap.size w w1) => lsame_l A A2 la lc cap cap2 w1 (HS.out.on hb) (HS2.out.on hb) (by omega) (by omega)
      have cr := fun w1 (hb : Below w.heap.size w w1) => rsame_l A A2 la lc cap cap2 w1 (HS.out.on hb) (HS2.out.on hb) (by omega) (by omega)
      have cl := fun w1 (hb : Below w.heap.size w w1) => lright_any s w1 (by omega) (HT.out.on hb)
      have cm := fun w1 (hb : Below w.heap.size w w1) => refline_any s w1 (by omega) (HT.out.on hb)
      generalize decide (la = lc) = d at cs cr
      generalize lineB s = d2 at cl cm
      have CS := Lib.hid cs
      have CR := Lib.hid cr
      have CL := Lib.hid cl
      have CM := Lib.hid cm
      clear hfin hbh HV cs cr cl cm
      have e1 : (d == d) = true := by simp
      have e2 : (d2 == d2) = true := by simp
      by_cases hneg : n < 0
      · clear hgo
        go_wp2_with fail
        refine (awake3_any wr (HT.out.on hb)).mono ?_
        rintro e w4 ⟨rfl, hb4⟩
        have hb5 := hb.trans (hb4.mono hb.size)
        clear hb4 hb
        go_wp2_with fail
        refine (CS.out w4 hb5).mono ?_
        rintro e w5 ⟨rfl, q, rfl⟩
        have hb6 := below_drewN hb5 q
        generalize w4.drewN q = w6 at hb6 ⊢
        clear hb5
        go_wp2_with fail
        refine (CR.out w6 hb6).mono ?_
        rintro e w7 ⟨rfl, hb7⟩
        have hb8 := hb6.trans (hb7.mono hb6.size)
        clear hb7 hb6
        go_wp2_with fail
        refine (CL.out w7 hb8).mono ?_
        rintro e w8 ⟨rfl, hb7⟩
        have hb9 := hb8.trans (hb7.mono hb8.size)
        clear hb7 hb8
        go_wp2_with fail
        refine (CM.out w8 hb9).mono ?_
        rintro e w9 ⟨rfl, hb7⟩
        have hb10 := hb9.trans (hb7.mono hb9.size)
        clear hb7 hb9
        go_wp2
        go_ret
        exact ⟨rfl, hb10⟩
      · have hge : 0 ≤ n := by omega
        have hlt : n < fr := by omega
        clear hgo
        go_wp2_with fail
        refine (awake3_any wr (HT.out.on hb)).mono ?_
        rintro e w4 ⟨rfl, hb4⟩
        have hb5 := hb.trans (hb4.mono hb.size)
        clear hb4 hb
        go_wp2_with fail
        refine (CS.out w4 hb5).mono ?_
        rintro e w5 ⟨rfl, q, rfl⟩
        have hb6 := below_drewN hb5 q
        generalize w4.drewN q = w6 at hb6 ⊢
        clear hb5
        go_wp2_with fail
        refine (CR.out w6 hb6).mono ?_
        rintro e w7 ⟨rfl, hb7⟩
        have hb8 := hb6.trans (hb7.mono hb6.size)
        clear hb7 hb6
        go_wp2_with fail
        refine (CL.out w7 hb8).mono ?_
        rintro e w8 ⟨rfl, hb7⟩
        have hb9 := hb8.trans (hb7.mono hb8.size)
        clear hb7 hb8
        go_wp2_with fail
        refine (CM.out w8 hb9).mono ?_
        rintro e w9 ⟨rfl, hb7⟩
        have hb10 := hb9.trans (hb7.mono hb9.size)
        clear hb7 hb9
        go_wp2
        go_ret
        exact ⟨rfl, hb10⟩


theorem finds_any (ss tt : List ByteArray) (hs : Strs w w.heap.size A ss) (hn : ss.length ≤ 9223372036854775807) (hR : Room A ss.length cap) (ht : Strs w w.heap.size A2 tt) (hn2 : tt.length ≤ 9223372036854775807)
    (hf1 : -9223372036854775808 ≤ fr) (hf2 : fr ≤ 9223372036854775807) (hz : s.size ≤ 9223372036854775807) (hT : Tabs w) :
    Calls Tryd.prog 5 #[.agg #[.slice A ss.length cap, .slice A2 tt.length cap2, .int .i64 fr, .string s]] w fun e w' => e = .returned (.bool true) ∧ Below w.heap.size w w' := by
  obtain ⟨la, rfl⟩ : ∃ la, ss = toBs la := ⟨lists ss, (toBs_lists ss).symm⟩
  obtain ⟨lc, rfl⟩ : ∃ lc, tt = toBs lc := ⟨lists tt, (toBs_lists tt).symm⟩
  rw [toBs_len] at hn hn2 hR ⊢
  rw [toBs_len]
  cases h1 : light3B (toBs la) with
  | false => exact finds_dark1 A A2 la lc cap cap2 fr s w hs ht hn hn2 hz hT h1
  | true =>
    cases h2 : light3B (toBs lc) with
    | false => exact finds_dark2 A A2 la lc cap cap2 fr s w hs ht hn hn2 hz hT h1 h2
    | true =>
      by_cases h3 : 300 < s.size
      · exact finds_dark3 A A2 la lc cap cap2 fr s w hs ht hn hn2 hz hT h1 h2 h3
      · exact finds_light A A2 la lc cap cap2 fr s w hs ht hn hn2 hz hT hR hf1 hf2 h1 h2 (by omega)
end
end Go.Proofs.YtokkkjgdfnkjoaaDoor
