
/- The statements of layer 4: their walks, over what package diff's calls are to do. -/
import Derived.Test.YtmffmhadimeplaaDiffSpec
namespace Go.Proofs.Ytmffmhadimeplaa
open Go.RowKit
set_option linter.unusedVariables false

theorem rsame_b (A A2 : Option Addr) (la : List (List UInt8)) (cap cap2 : Nat) (w : World) (hs : Strs w w.heap.size A (toBs la)) (ht : Strs w w.heap.size A2 (toBs la)) (hn : la.length ≤ 1000000) :
    Calls Try.prog 15 #[.slice A la.length cap, .slice A2 la.length cap2] w fun e w' => e = .returned (.bool true) ∧ Below w.heap.size w w' := by
  have h := same_any A A2 (toBs la) (toBs la) cap cap2 w hs ht (by rw [toBs_len]; omega) (by rw [toBs_len]; omega)
  rw [toBs_len, decide_eq_true rfl] at h
  exact h
theorem rsameh_b (A A2 : Option Addr) (hs ks : List Hm) (cap cap2 : Nat) (w : World) (hk : Hks w w.heap.size A hs) (gk : Hks w w.heap.size A2 ks) (hn : Small hs) (gn : Small ks) (he : keys hs = keys ks) :
    Calls Try.prog 13 #[.slice A hs.length cap, .slice A2 ks.length cap2] w fun e w' => e = .returned (.bool true) ∧ Below w.heap.size w w' := by
  have h := refsameh_any A A2 hs ks cap cap2 w hk gk hn gn
  rw [decide_eq_true he] at h
  exact h.mono fun e w' ⟨h1, q, h2⟩ => ⟨h1, by rw [h2]; exact below_drewN (Below.refl _ _) q⟩
/-- The hunks by which two lists differ are few, and small. -/
theorem sum_le : ∀ {l : List (Hk (List UInt8))} {h : Hk (List UInt8)}, h ∈ l → h.old.length ≤ sumOld l ∧ h.new.length ≤ sumNew l
  | g :: l, h, hh => by
    simp only [sumOld, sumNew, List.map_cons, List.sum_cons]
    rcases List.mem_cons.1 hh with rfl | hh
    · omega
    · have := sum_le hh
      simp only [sumOld, sumNew] at this
      omega
theorem may_len : ∀ {l : List (Hk (List UInt8))}, May l → l.length ≤ sumOld l + sumNew l
  | [], _ => by simp
  | g :: l, h => by
    have ih := may_len h.2.2
    have : 0 < g.old.length + g.new.length := by
      rcases h.1 with h1 | h1
      · have := List.length_pos_iff.2 h1; omega
      · have := List.length_pos_iff.2 h1; omega
    simp only [sumOld, sumNew, List.map_cons, List.sum_cons, List.length_cons] at *
    omega
theorem small_of {hs : List Hm} {l : List (Hk (List UInt8))} (hp : plains hs = l) (hm : May l) (h : sumOld l ≤ 1000 ∧ sumNew l ≤ 1000) : Small hs ∧ hs.length ≤ 2000 := by
  have e : hs.length = l.length := by rw [← hp]; simp [plains]
  have := may_len hm
  refine ⟨⟨by omega, fun x hx => ?_⟩, by omega⟩
  have := sum_le (l := l) (h := x.plain) (by rw [← hp]; exact List.mem_map.2 ⟨x, hx, rfl⟩)
  simp only [Hm.plain] at this
  omega


theorem hunk_facts {la lc : List (List UInt8)} {hs : List Hm} (hpl : plains hs = hunks la lc) (hp0 : ∀ h ∈ hs, 0 ≤ h.at_) (hn : la.length ≤ 400) (hn2 : lc.length ≤ 400) :
    mayB hs = true ∧ applE la hs = 0 ∧ refApp la (plains hs) = lc ∧ Small hs ∧ hs.length ≤ 1000 ∧ la.length + sumNew (plains hs) ≤ 300000 ∧ (∀ h ∈ hs, h.at_ ≤ 1000000) ∧ sumOld (plains hs) + lcs la lc = la.length ∧ sumNew (plains hs) + lcs la lc = lc.length ∧ May (plains hs) ∧ standB la hs = true := by
  obtain ⟨f1, f2, f3, f4⟩ := hunks_facts la lc
  obtain ⟨a1, a2⟩ := hunks_app la lc
  rw [← hpl] at f2 f3 f4 a1 a2
  have hm := mayB_of hp0 f2
  have hst := standB_of hp0 a2
  have hsm := small_of rfl f2 (by omega)
  have hl := may_len f2
  have e : hs.length = (plains hs).length := by simp [plains]
  refine ⟨hm, by simp [applE, hm, hst], a1, hsm.1, by omega, by omega, fun h hh => ?_, f3, f4, f2, hst⟩
  have := (a2 h.plain (List.mem_map.2 ⟨h, hh, rfl⟩)).1
  have h0 := hp0 h hh
  simp only [Hm.plain] at this
  omega
theorem inv_facts {la lc : List (List UInt8)} {hs ks : List Hm} (hm : May (plains hs)) (hst : ∀ g ∈ plains hs, Stands la g) (happ : refApp la (plains hs) = lc) (hk : plains ks = inv 0 0 (plains hs)) (hk0 : ∀ h ∈ ks, 0 ≤ h.at_) (hb : sumOld (plains hs) ≤ 10000 ∧ sumNew (plains hs) ≤ 10000) (hl : hs.length ≤ 1000) (hn : lc.length ≤ 100000) :
    mayB ks = true ∧ applE lc ks = 0 ∧ refApp lc (plains ks) = la ∧ Small ks ∧ ks.length ≤ 1000 ∧ lc.length + sumNew (plains ks) ≤ 300000 ∧ (∀ h ∈ ks, h.at_ ≤ 1000000) := by
  obtain ⟨t1, t2, t3, t4⟩ := there_back hm hst
  obtain ⟨s1, s2⟩ := inv_sum (plains hs) 0 0
  rw [← hk] at t1 t2 t3 s1 s2
  rw [happ] at t2 t3
  have hm' := mayB_of hk0 t1
  have hst' := standB_of hk0 t2
  have hlen : ks.length = hs.length := by
    have : (plains ks).length = (plains hs).length := by
      rw [hk]
      have : ∀ (l : List (Hk (List UInt8))) (i j : Nat), (inv i j l).length = l.length := by
        intro l
        induction l with
        | nil => intro i j; rfl
        | cons g l ih => intro i j; simp [inv, ih]
      exact this _ _ _
    simpa [plains] using this
  refine ⟨hm', by simp [applE, hm', hst'], t3, ⟨by omega, fun x hx => ?_⟩, by omega, by omega, fun h hh => ?_⟩
  · have := sum_le (l := plains ks) (h := x.plain) (List.mem_map.2 ⟨x, hx, rfl⟩)
    simp only [Hm.plain] at this
    omega
  · have := (t2 h.plain (List.mem_map.2 ⟨h, hh, rfl⟩)).1
    have h0 := hk0 h hh
    simp only [Hm.plain] at this
    omega
theorem zeros_ok {la : List (List UInt8)} (h : light3B (toBs la) = true) : la.length ≤ 60 := by
  have := light3B_len h
  rwa [toBs_len] at this

theorem told_ok {w : World} {ls : List (List UInt8)} {f : FuncId} {args : Array Value} (h : Calls Try.prog f args w (Told w ls 0)) : Calls Try.prog f args w fun e w' => ∃ A k, e = .returned (.tuple #[.slice A ls.length k, .int .i64 0]) ∧ Strs w' w'.heap.size A (toBs ls) ∧ Below w.heap.size w w' := by
  refine h.mono ?_
  rintro e w' ⟨A, k, l, rfl, ⟨hl, _⟩, _, hs, hb⟩
  obtain rfl := hl rfl
  exact ⟨A, k, rfl, hs, hb⟩
theorem told_okR {w : World} {ls : List (List UInt8)} {f : FuncId} {args : Array Value} (h : Calls Try.prog f args w (Told w ls 0)) : Calls Try.prog f args w fun e w' => ∃ A k, e = .returned (.tuple #[.slice A ls.length k, .int .i64 0]) ∧ Room A ls.length k ∧ Strs w' w'.heap.size A (toBs ls) ∧ Below w.heap.size w w' := by
  refine h.mono ?_
  rintro e w' ⟨A, k, l, rfl, ⟨hl, _⟩, hr, hs, hb⟩
  obtain rfl := hl rfl
  exact ⟨A, k, rfl, hr, hs, hb⟩
theorem told_no {w : World} {ls : List (List UInt8)} {er : Int} {f : FuncId} {args : Array Value} (h : Calls Try.prog f args w (Told w ls er)) (h0 : er ≠ 0) : Calls Try.prog f args w fun e w' => ∃ A k, e = .returned (.tuple #[.slice A 0 k, .int .i64 er]) ∧ Below w.heap.size w w' := by
  refine h.mono ?_
  rintro e w' ⟨A, k, l, rfl, ⟨_, hl⟩, hr, hs, hb⟩
  obtain rfl := hl h0
  exact ⟨A, k, rfl, hb⟩

set_option maxHeartbeats 1000000 in
set_option maxRecDepth 100000 in
theorem diffhunks_light (c : DiffC) (ca4 : ∀ w : World, Calls Try.prog 7 #[] w fun e w' => e = .returned (.bool true) ∧ Below w.heap.size w w') (A A2 : Option Addr) (la lc : List (List UInt8)) (cap cap2 : Nat) (w : World)
    (hs0 : Strs w w.heap.size A (toBs la)) (ht0 : Strs w w.heap.size A2 (toBs lc)) (RA : Room A la.length cap) (RB : Room A2 lc.length cap2) (h1 : light3B (toBs la) = true) (h2 : light3B (toBs lc) = true) :
    Calls Try.prog 3 #[.slice A la.length cap, .slice A2 lc.length cap2] w fun e w' => e = .returned (.bool true) ∧ Below w.heap.size w w' := by
  have hla := zeros_ok h1
  have hlc := zeros_ok h2
  have l1 := light3_any A (toBs la) cap w hs0 (by rw [toBs_len]; omega)
  have l2 := light3_any A2 (toBs lc) cap2 w ht0 (by rw [toBs_len]; omega)
  rw [toBs_len, h1] at l1
  rw [toBs_len, h2] at l2
  have L1 := Lib.hid l1
  have L2 := Lib.hid l2
  have SA := Lib.hid hs0
  have SB := Lib.hid ht0
  clear l1 l2 hs0 ht0 h1 h2
  go_enter Try.func3, Try.ntmps3
  go_wp2_with fail
  refine (L1.out).mono ?_
  rintro e w' ⟨rfl, rfl⟩
  go_wp2_with fail
  refine (L2.out).mono ?_
  rintro e w' ⟨rfl, rfl⟩
  go_wp2_with fail
  refine (c.hunks A A2 la lc cap cap2 w SA.out SB.out RA RB (by omega) (by omega)).mono ?_
  rintro e w1 ⟨A1, k1, hs, rfl, hpl, hr1, hk1, hb⟩
  have hb1 := (Below.refl w.heap.size w).trans (hb.mono (Below.refl w.heap.size w).size)
  have SA := Lib.hid (SA.out.on hb)
  have SB := Lib.hid (SB.out.on hb)
  have K1 := Lib.hid hk1
  clear hb hk1
  obtain ⟨hpl1, hp0⟩ := hpl
  obtain ⟨hm, he0, happ, hsm, hl, hsum, hat, hso, hsn, hmay, hstd⟩ := hunk_facts hpl1 hp0 (by omega) (by omega)
  have HF := Lib.hid (And.intro hm (And.intro he0 (And.intro happ (And.intro hsm (And.intro hl (And.intro hsum hat))))))
  have HP := Lib.hid (And.intro hpl1 hp0)
  have HM := Lib.hid (And.intro hmay (stands_of hp0 hstd))
  have HS := Lib.hid (And.intro hso hsn)
  have HR1 := Lib.hid hr1
  clear hpl1 hp0 hm he0 happ hsm hl hsum hat hso hsn hmay hstd hr1
  have ca := c.apply A A1 la hs cap k1 w1 SA.out RA K1.out HR1.out HF.out.2.2.2.1 HF.out.2.2.2.2.1 HF.out.2.2.2.2.2.1
  rw [HF.out.2.1, HF.out.2.2.1] at ca
  have CA := Lib.hid (told_ok ca)
  clear ca
  go_wp2_with fail
  refine (CA.out).mono ?_
  rintro e w2 ⟨A2x, k2, rfl, hs2, hb⟩
  have hb2 := hb1.trans (hb.mono hb1.size)
  have SA := Lib.hid (SA.out.on hb)
  have SB := Lib.hid (SB.out.on hb)
  have K1 := Lib.hid (K1.out.on hb)
  have S2 := Lib.hid hs2
  clear hb hb1 hs2
  go_wp2_with fail
  refine (c.invert A1 hs k1 w2 K1.out HR1.out HF.out.2.2.2.1 HF.out.2.2.2.2.1 (fun _ => HF.out.2.2.2.2.2.2)).mono ?_
  rintro e w3 ⟨A3, k3, ks, rfl, hinv, hr3, hk3, hb⟩
  have hb3 := hb2.trans (hb.mono hb2.size)
  have SA := Lib.hid (SA.out.on hb)
  have SB := Lib.hid (SB.out.on hb)
  have K1 := Lib.hid (K1.out.on hb)
  have S2 := Lib.hid (S2.out.on hb)
  have K3 := Lib.hid hk3
  clear hb hb2 hk3
  obtain ⟨hi1, hi2⟩ := hinv.1 HF.out.1
  obtain ⟨ha, hb', hc, hd, he, hf, hg⟩ := inv_facts HM.out.1 HM.out.2 HF.out.2.2.1 hi1 hi2 (by have := HS.out; omega) HF.out.2.2.2.2.1 (by omega)
  have ca := c.apply A2 A3 lc ks cap2 k3 w3 SB.out RB K3.out hr3 hd he hf
  rw [hb', hc] at ca
  have CA2 := Lib.hid (told_ok ca)
  clear ca hi1 hi2 ha hb' hc hd he hf hg hinv hr3
  go_wp2_with fail
  refine (CA2.out).mono ?_
  rintro e w4 ⟨A4, k4, rfl, hs4, hb⟩
  have hb4 := hb3.trans (hb.mono hb3.size)
  have SA := Lib.hid (SA.out.on hb)
  have SB := Lib.hid (SB.out.on hb)
  have K1 := Lib.hid (K1.out.on hb)
  have S2 := Lib.hid (S2.out.on hb)
  have S4 := Lib.hid hs4
  clear hb hb3 hs4
  go_wp2_with fail
  refine (refalike_any A A2 la lc cap cap2 w4 SA.out SB.out (by omega) (by omega)).mono ?_
  rintro e w5 ⟨tv, rfl, htb, hb⟩
  have hb5 := hb4.trans (hb.mono hb4.size)
  have SA := Lib.hid (SA.out.on hb)
  have SB := Lib.hid (SB.out.on hb)
  have K1 := Lib.hid (K1.out.on hb)
  have S2 := Lib.hid (S2.out.on hb)
  have S4 := Lib.hid (S4.out.on hb)
  have HT := Lib.hid htb
  clear hb hb4 htb
  obtain ⟨gt, capt, ht0, hget⟩ := HT.out.get (by rw [tabOf_len]; omega)
  rw [tabOf_len] at ht0
  subst ht0
  obtain ⟨ga, cga, ra⟩ := hget la.length (by rw [tabOf_len]; omega)
  rw [tabOf_get, Nat.sub_self] at ra
  have fz := ra.c (i := 0) (by rw [rowOf_len]; omega)
  rw [rowOf_get, List.drop_zero, List.drop_zero] at fz
  have HFZ := Lib.hid (And.intro cga fz)
  clear ra hget cga fz
  obtain ⟨cga, fz⟩ := HFZ.out
  go_wp2_with fail
  refine (c.size A1 hs k1 w5 K1.out HF.out.2.2.2.1 HF.out.2.2.2.2.1).mono ?_
  rintro e w6 ⟨rfl, hb⟩
  have hb6 := hb5.trans (hb.mono hb5.size)
  have SA := Lib.hid (SA.out.on hb)
  have SB := Lib.hid (SB.out.on hb)
  have K1 := Lib.hid (K1.out.on hb)
  have S2 := Lib.hid (S2.out.on hb)
  have S4 := Lib.hid (S4.out.on hb)
  clear hb hb5
  clear cga fz HFZ
  go_wp2_with fail
  refine (ca4 w6).mono ?_
  rintro e w7 ⟨rfl, hb⟩
  have hb7 := hb6.trans (hb.mono hb6.size)
  have SA := Lib.hid (SA.out.on hb)
  have SB := Lib.hid (SB.out.on hb)
  have K1 := Lib.hid (K1.out.on hb)
  have S2 := Lib.hid (S2.out.on hb)
  have S4 := Lib.hid (S4.out.on hb)
  clear hb hb6
  go_wp2_with fail
  refine (refhunks_any A A2 la lc cap cap2 w7 SA.out SB.out (by omega) (by omega)).mono ?_
  rintro e w8 ⟨A8, k8, hs8, rfl, hpl8, hr8, hk8, hb⟩
  have hb8 := hb7.trans (hb.mono hb7.size)
  have SA := Lib.hid (SA.out.on hb)
  have SB := Lib.hid (SB.out.on hb)
  have K1 := Lib.hid (K1.out.on hb)
  have S2 := Lib.hid (S2.out.on hb)
  have S4 := Lib.hid (S4.out.on hb)
  have K8 := Lib.hid hk8
  clear hb hb7 hk8
  have hkeys : keys hs = keys hs8 := keys_of HP.out.2 hpl8.2 (HP.out.1.trans hpl8.1.symm)
  have hsm8 := (hunk_facts hpl8.1 hpl8.2 (by omega) (by omega)).2.2.2.1
  have CK := Lib.hid (rsameh_b A1 A8 hs hs8 k1 k8 w8 K1.out K8.out HF.out.2.2.2.1 hsm8 hkeys)
  clear hkeys hsm8 hpl8 hr8
  go_wp2_with fail
  refine (CK.out).mono ?_
  rintro e w9 ⟨rfl, hb⟩
  have hb9 := hb8.trans (hb.mono hb8.size)
  have SA := Lib.hid (SA.out.on hb)
  have SB := Lib.hid (SB.out.on hb)
  have S2 := Lib.hid (S2.out.on hb)
  have S4 := Lib.hid (S4.out.on hb)
  clear hb hb8
  go_wp2_with fail
  refine (rsame_b A2x A2 lc k2 cap2 w9 S2.out SB.out (by omega)).mono ?_
  rintro e w10 ⟨rfl, hb⟩
  have hb10 := hb9.trans (hb.mono hb9.size)
  have SA := Lib.hid (SA.out.on hb)
  have SB := Lib.hid (SB.out.on hb)
  have S4 := Lib.hid (S4.out.on hb)
  clear hb hb9
  go_wp2_with fail
  refine (rsame_b A4 A la k4 cap w10 S4.out SA.out (by omega)).mono ?_
  rintro e w11 ⟨rfl, hb⟩
  have hb11 := hb10.trans (hb.mono hb10.size)
  have SA := Lib.hid (SA.out.on hb)
  have SB := Lib.hid (SB.out.on hb)
  clear hb hb10
  go_wp2_with fail
  refine (c.alike A A2 la lc cap cap2 w11 SA.out SB.out RA RB (by omega) (by omega)).mono ?_
  rintro e w12 ⟨rfl, hb⟩
  have hb12 := hb11.trans (hb.mono hb11.size)
  have SA := Lib.hid (SA.out.on hb)
  have SB := Lib.hid (SB.out.on hb)
  clear hb hb11
  obtain ⟨z1, z2⟩ := HS.out
  have q1 : ((sumOld (plains hs) : Int) == (la.length : Int) - (lcs la lc : Int)) = true := by rw [beq_iff_eq]; omega
  have q2 : ((sumNew (plains hs) : Int) == (lc.length : Int) - (lcs la lc : Int)) = true := by rw [beq_iff_eq]; omega
  generalize sumOld (plains hs) = n1 at *
  generalize sumNew (plains hs) = n2 at *
  generalize lcs la lc = n3 at *
  go_wp2
  go_ret
  exact ⟨rfl, hb12⟩

theorem may_b (A : Option Addr) (hs : List Hm) (cap : Nat) (w : World) (hk : Hks w w.heap.size A hs) (hn : hs.length ≤ 1000000) {b : Bool} (hb : mayB hs = b) :
    Calls Try.prog 18 #[.slice A hs.length cap] w fun e w' => e = .returned (.bool b) ∧ Below w.heap.size w w' :=
  (refmay_any A hs cap w hk hn).mono fun e w' ⟨h1, q, h2⟩ => ⟨by rw [h1, hb], by rw [h2]; exact below_drewN (Below.refl _ _) q⟩
theorem refsameh_w (A A2 : Option Addr) (hs ks : List Hm) (cap cap2 : Nat) (w : World) (hk : Hks w w.heap.size A hs) (gk : Hks w w.heap.size A2 ks) (hn : Small hs) (gn : Small ks) :
    Calls Try.prog 13 #[.slice A hs.length cap, .slice A2 ks.length cap2] w fun e w' => e = .returned (.bool (decide (keys hs = keys ks))) ∧ Below w.heap.size w w' :=
  (refsameh_any A A2 hs ks cap cap2 w hk gk hn gn).mono fun e w' ⟨h1, q, h2⟩ => ⟨h1, by rw [h2]; exact below_drewN (Below.refl _ _) q⟩
theorem sums_le : ∀ (hs : List Hm), (∀ h ∈ hs, h.old.length ≤ 60 ∧ h.new.length ≤ 60) → sumNew (plains hs) ≤ hs.length * 60 ∧ sumOld (plains hs) ≤ hs.length * 60
  | [], _ => by simp [sumNew, sumOld, plains]
  | h :: hs, hh => by
    have ih := sums_le hs fun x hx => hh x (List.mem_cons_of_mem _ hx)
    have h1 := hh h (by simp)
    simp only [sumNew, sumOld, plains, List.map_cons, List.sum_cons, List.length_cons, Hm.plain] at *
    omega
theorem light4_small {hs : List Hm} (h : light4B hs = true) : Small hs ∧ hs.length ≤ 30 ∧ sumNew (plains hs) ≤ 1800 ∧ sumOld (plains hs) ≤ 1800 := by
  obtain ⟨h1, h2⟩ := light4_facts h
  have hall : ∀ h ∈ hs, h.old.length ≤ 60 ∧ h.new.length ≤ 60 := fun x hx => ⟨zeros_ok (h2 x hx).1, zeros_ok (h2 x hx).2⟩
  have := sums_le hs hall
  exact ⟨⟨by omega, fun x hx => by have := hall x hx; omega⟩, h1, by omega, by omega⟩

theorem inv_none {w : World} {hs : List Hm} {f : FuncId} {args : Array Value} (h : Calls Try.prog f args w (InvTold w hs)) (hm : mayB hs = false) : Calls Try.prog f args w fun e w' => ∃ A k, e = .returned (.slice A 0 k) ∧ Below w.heap.size w w' := by
  refine h.mono ?_
  rintro e w' ⟨A, k, ks, rfl, ⟨_, hk⟩, _, _, hb⟩
  obtain rfl := hk hm
  exact ⟨A, k, rfl, hb⟩
theorem appl_no {w : World} {la : List (List UInt8)} {hs : List Hm} {f : FuncId} {args : Array Value} (h : Calls Try.prog f args w (Appl w la hs)) (hm : standB la hs = false) : Calls Try.prog f args w fun e w' => ∃ A k, e = .returned (.tuple #[.slice A 0 k, .bool false]) ∧ Below w.heap.size w w' := by
  refine h.mono ?_
  rintro e w' ⟨A, k, l, d, rfl, ⟨hd, _, hl⟩, _, _, hb⟩
  rw [hm] at hd
  subst hd
  obtain rfl := hl rfl
  exact ⟨A, k, rfl, hb⟩
theorem appl_yes {w : World} {la : List (List UInt8)} {hs : List Hm} {f : FuncId} {args : Array Value} (h : Calls Try.prog f args w (Appl w la hs)) (hm : standB la hs = true) : Calls Try.prog f args w fun e w' => ∃ A k, e = .returned (.tuple #[.slice A (refApp la (plains hs)).length k, .bool true]) ∧ Strs w' w'.heap.size A (toBs (refApp la (plains hs))) ∧ Below w.heap.size w w' := by
  refine h.mono ?_
  rintro e w' ⟨A, k, l, d, rfl, ⟨hd, hl, _⟩, _, hs, hb⟩
  rw [hm] at hd
  subst hd
  obtain rfl := hl rfl
  exact ⟨A, k, rfl, hs, hb⟩

set_option maxHeartbeats 1000000 in
set_option maxRecDepth 100000 in
theorem applies_nomay (c : DiffC) (ca4 : ∀ w : World, Calls Try.prog 7 #[] w fun e w' => e = .returned (.bool true) ∧ Below w.heap.size w w') (A A1 A2 : Option Addr) (la : List (List UInt8)) (hs ks : List Hm) (cap k1 k2 : Nat) (w : World)
    (hs0 : Strs w w.heap.size A (toBs la)) (hk0 : Hks w w.heap.size A1 hs) (gk0 : Hks w w.heap.size A2 ks) (RA : Room A la.length cap) (RB : Room A1 hs.length k1) (h1 : light3B (toBs la) = true) (h2 : light4B hs = true) (h3 : light4B ks = true) (hm : mayB hs = false) :
    Calls Try.prog 4 #[.slice A la.length cap, .slice A1 hs.length k1, .slice A2 ks.length k2] w fun e w' => e = .returned (.bool true) ∧ Below w.heap.size w w' := by
  have hla := zeros_ok h1
  obtain ⟨sm1, sl1, ss1, so1⟩ := light4_small h2
  obtain ⟨sm2, sl2, ss2, so2⟩ := light4_small h3
  have l1 := light3_any A (toBs la) cap w hs0 (by rw [toBs_len]; omega)
  have l2 := light4_any A1 hs k1 w hk0 (by omega)
  have l3 := light4_any A2 ks k2 w gk0 (by omega)
  rw [toBs_len, h1] at l1
  rw [h2] at l2
  rw [h3] at l3
  have L1 := Lib.hid l1
  have L2 := Lib.hid l2
  have L3 := Lib.hid l3
  have SA := Lib.hid hs0
  have K1 := Lib.hid hk0
  have K2 := Lib.hid gk0
  have SM1 := Lib.hid sm1
  have SM2 := Lib.hid sm2
  clear l1 l2 l3 hs0 hk0 gk0 h1 h2 h3 sm1 sm2
  have ca := c.apply A A1 la hs cap k1 w SA.out RA K1.out RB SM1.out (by omega) (by omega)
  rw [show applE la hs = 6 by simp [applE, hm]] at ca
  have CA := Lib.hid (told_no ca (by decide))
  have CI := Lib.hid (fun w1 (h1 : Hks w1 w1.heap.size A1 hs) => inv_none (c.invert A1 hs k1 w1 h1 RB SM1.out (by omega) (fun h => by rw [hm] at h; cases h)) hm)
  have HM := Lib.hid hm
  clear ca hm
  go_enter Try.func4, Try.ntmps4
  go_wp2_with fail
  refine (L1.out).mono ?_
  rintro e w' ⟨rfl, rfl⟩
  go_wp2_with fail
  refine (L2.out).mono ?_
  rintro e w' ⟨rfl, rfl⟩
  go_wp2_with fail
  refine (L3.out).mono ?_
  rintro e w' ⟨rfl, rfl⟩
  go_wp2_with fail
  refine (CA.out).mono ?_
  rintro e w1 ⟨A3, k3, rfl, hb⟩
  have hb1 := (Below.refl w.heap.size w).trans (hb.mono (Below.refl w.heap.size w).size)
  have SA := Lib.hid (SA.out.on hb)
  have K1 := Lib.hid (K1.out.on hb)
  have K2 := Lib.hid (K2.out.on hb)
  clear hb 
  go_wp2_with fail
  refine (may_b A1 hs k1 w1 K1.out (by omega) HM.out).mono ?_
  rintro e w2 ⟨rfl, hb⟩
  have hb2 := hb1.trans (hb.mono hb1.size)
  have SA := Lib.hid (SA.out.on hb)
  have K1 := Lib.hid (K1.out.on hb)
  have K2 := Lib.hid (K2.out.on hb)
  clear hb hb1
  have cc := c.check A1 hs k1 w2 K1.out RB SM1.out (by omega)
  rw [HM.out] at cc
  simp only [if_true, if_false, Bool.false_eq_true] at cc
  have CC := Lib.hid cc
  clear cc
  go_wp2_with fail
  refine (CC.out).mono ?_
  rintro e w3 ⟨rfl, hb⟩
  have hb3 := hb2.trans (hb.mono hb2.size)
  have SA := Lib.hid (SA.out.on hb)
  have K1 := Lib.hid (K1.out.on hb)
  have K2 := Lib.hid (K2.out.on hb)
  clear hb hb2
  have cs := c.same A1 A2 hs ks k1 k2 w3 K1.out K2.out SM1.out SM2.out
  have cr := fun w1 (h1 : Hks w1 w1.heap.size A1 hs) (h2 : Hks w1 w1.heap.size A2 ks) => refsameh_w A1 A2 hs ks k1 k2 w1 h1 h2 SM1.out SM2.out
  generalize decide (keys hs = keys ks) = d at cs cr
  have CS := Lib.hid cs
  have CR := Lib.hid cr
  have qd : (d == d) = true := by simp
  have qd2 : (d != d) = false := by simp
  clear cs cr
  go_wp2_with fail
  refine (CS.out).mono ?_
  rintro e w4 ⟨rfl, hb⟩
  have hb4 := hb3.trans (hb.mono hb3.size)
  have SA := Lib.hid (SA.out.on hb)
  have K1 := Lib.hid (K1.out.on hb)
  have K2 := Lib.hid (K2.out.on hb)
  clear hb hb3
  go_wp2_with fail
  refine (CR.out w4 K1.out K2.out).mono ?_
  rintro e w5 ⟨rfl, hb⟩
  have hb5 := hb4.trans (hb.mono hb4.size)
  have SA := Lib.hid (SA.out.on hb)
  have K1 := Lib.hid (K1.out.on hb)
  clear hb hb4
  go_wp2_with fail
  refine (ca4 w5).mono ?_
  rintro e w6 ⟨rfl, hb⟩
  have hb6 := hb5.trans (hb.mono hb5.size)
  have SA := Lib.hid (SA.out.on hb)
  have K1 := Lib.hid (K1.out.on hb)
  clear hb hb5
  go_wp2_with fail
  refine (CI.out w6 K1.out).mono ?_
  rintro e w7 ⟨A4, k4, rfl, hb⟩
  have hb7 := hb6.trans (hb.mono hb6.size)
  have SA := Lib.hid (SA.out.on hb)
  have K1 := Lib.hid (K1.out.on hb)
  clear hb hb6
  go_wp2
  go_ret
  exact ⟨rfl, hb7⟩

set_option maxHeartbeats 1000000 in
set_option maxRecDepth 100000 in
theorem applies_no (c : DiffC) (ca4 : ∀ w : World, Calls Try.prog 7 #[] w fun e w' => e = .returned (.bool true) ∧ Below w.heap.size w w') (A A1 A2 : Option Addr) (la : List (List UInt8)) (hs ks : List Hm) (cap k1 k2 : Nat) (w : World)
    (hs0 : Strs w w.heap.size A (toBs la)) (hk0 : Hks w w.heap.size A1 hs) (gk0 : Hks w w.heap.size A2 ks) (RA : Room A la.length cap) (RB : Room A1 hs.length k1) (h1 : light3B (toBs la) = true) (h2 : light4B hs = true) (h3 : light4B ks = true) (hm : mayB hs = true) (hst : standB la hs = false) :
    Calls Try.prog 4 #[.slice A la.length cap, .slice A1 hs.length k1, .slice A2 ks.length k2] w fun e w' => e = .returned (.bool true) ∧ Below w.heap.size w w' := by
  have hla := zeros_ok h1
  obtain ⟨sm1, sl1, ss1, so1⟩ := light4_small h2
  obtain ⟨sm2, sl2, ss2, so2⟩ := light4_small h3
  have l1 := light3_any A (toBs la) cap w hs0 (by rw [toBs_len]; omega)
  have l2 := light4_any A1 hs k1 w hk0 (by omega)
  have l3 := light4_any A2 ks k2 w gk0 (by omega)
  rw [toBs_len, h1] at l1
  rw [h2] at l2
  rw [h3] at l3
  have L1 := Lib.hid l1
  have L2 := Lib.hid l2
  have L3 := Lib.hid l3
  have SA := Lib.hid hs0
  have K1 := Lib.hid hk0
  have K2 := Lib.hid gk0
  have SM1 := Lib.hid sm1
  have SM2 := Lib.hid sm2
  clear l1 l2 l3 hs0 hk0 gk0 h1 h2 h3 sm1 sm2
  have ca := c.apply A A1 la hs cap k1 w SA.out RA K1.out RB SM1.out (by omega) (by omega)
  rw [show applE la hs = 13 by simp [applE, hm, hst]] at ca
  have CA := Lib.hid (told_no ca (by decide))
  have HM := Lib.hid hm
  have HST := Lib.hid hst
  clear ca hm hst
  go_enter Try.func4, Try.ntmps4
  go_wp2_with fail
  refine (L1.out).mono ?_
  rintro e w' ⟨rfl, rfl⟩
  go_wp2_with fail
  refine (L2.out).mono ?_
  rintro e w' ⟨rfl, rfl⟩
  go_wp2_with fail
  refine (L3.out).mono ?_
  rintro e w' ⟨rfl, rfl⟩
  go_wp2_with fail
  refine (CA.out).mono ?_
  rintro e w1 ⟨A3, k3, rfl, hb⟩
  have hb1 := (Below.refl w.heap.size w).trans (hb.mono (Below.refl w.heap.size w).size)
  have SA := Lib.hid (SA.out.on hb)
  have K1 := Lib.hid (K1.out.on hb)
  have K2 := Lib.hid (K2.out.on hb)
  clear hb 
  go_wp2_with fail
  refine (may_b A1 hs k1 w1 K1.out (by omega) HM.out).mono ?_
  rintro e w2 ⟨rfl, hb⟩
  have hb2 := hb1.trans (hb.mono hb1.size)
  have SA := Lib.hid (SA.out.on hb)
  have K1 := Lib.hid (K1.out.on hb)
  have K2 := Lib.hid (K2.out.on hb)
  clear hb hb1
  have cc := c.check A1 hs k1 w2 K1.out RB SM1.out (by omega)
  rw [HM.out] at cc
  simp only [if_true, if_false, Bool.false_eq_true] at cc
  have CC := Lib.hid cc
  clear cc
  go_wp2_with fail
  refine (CC.out).mono ?_
  rintro e w3 ⟨rfl, hb⟩
  have hb3 := hb2.trans (hb.mono hb2.size)
  have SA := Lib.hid (SA.out.on hb)
  have K1 := Lib.hid (K1.out.on hb)
  have K2 := Lib.hid (K2.out.on hb)
  clear hb hb2
  have cs := c.same A1 A2 hs ks k1 k2 w3 K1.out K2.out SM1.out SM2.out
  have cr := fun w1 (h1 : Hks w1 w1.heap.size A1 hs) (h2 : Hks w1 w1.heap.size A2 ks) => refsameh_w A1 A2 hs ks k1 k2 w1 h1 h2 SM1.out SM2.out
  generalize decide (keys hs = keys ks) = d at cs cr
  have CS := Lib.hid cs
  have CR := Lib.hid cr
  have qd : (d == d) = true := by simp
  have qd2 : (d != d) = false := by simp
  clear cs cr
  go_wp2_with fail
  refine (CS.out).mono ?_
  rintro e w4 ⟨rfl, hb⟩
  have hb4 := hb3.trans (hb.mono hb3.size)
  have SA := Lib.hid (SA.out.on hb)
  have K1 := Lib.hid (K1.out.on hb)
  have K2 := Lib.hid (K2.out.on hb)
  clear hb hb3
  go_wp2_with fail
  refine (CR.out w4 K1.out K2.out).mono ?_
  rintro e w5 ⟨rfl, hb⟩
  have hb5 := hb4.trans (hb.mono hb4.size)
  have SA := Lib.hid (SA.out.on hb)
  have K1 := Lib.hid (K1.out.on hb)
  clear hb hb4
  go_wp2_with fail
  refine (appl_no (refapply_any A A1 la hs cap k1 w5 SA.out RA K1.out HM.out (by omega) SM1.out) HST.out).mono ?_
  rintro e w6 ⟨A4, k4, rfl, hb⟩
  have hb6 := hb5.trans (hb.mono hb5.size)
  have SA := Lib.hid (SA.out.on hb)
  have K1 := Lib.hid (K1.out.on hb)
  clear hb hb5
  go_wp2_with fail
  refine (ca4 w6).mono ?_
  rintro e w7 ⟨rfl, hb⟩
  have hb7 := hb6.trans (hb.mono hb6.size)
  have SA := Lib.hid (SA.out.on hb)
  have K1 := Lib.hid (K1.out.on hb)
  clear hb hb6
  go_wp2
  go_ret
  exact ⟨rfl, hb7⟩

theorem small_of' {hs ks : List Hm} (h : plains ks = plains hs) (hn : Small hs) : Small ks := by
  have e : ks.length = hs.length := by
    have := congrArg List.length h
    simpa [plains] using this
  refine ⟨by rw [e]; exact hn.1, fun x hx => ?_⟩
  have hm : x.plain ∈ plains hs := by rw [← h]; exact List.mem_map.2 ⟨x, hx, rfl⟩
  obtain ⟨y, hy, he⟩ := List.mem_map.1 hm
  have := hn.2 y hy
  simp only [Hm.plain, Hk.mk.injEq] at he
  rw [← he.2.1, ← he.2.2]
  exact this

set_option maxHeartbeats 1000000 in
set_option maxRecDepth 100000 in
theorem applies_yes (c : DiffC) (ca4 : ∀ w : World, Calls Try.prog 7 #[] w fun e w' => e = .returned (.bool true) ∧ Below w.heap.size w w') (A A1 A2 : Option Addr) (la : List (List UInt8)) (hs ks : List Hm) (cap k1 k2 : Nat) (w : World)
    (hs0 : Strs w w.heap.size A (toBs la)) (hk0 : Hks w w.heap.size A1 hs) (gk0 : Hks w w.heap.size A2 ks) (RA : Room A la.length cap) (RB : Room A1 hs.length k1) (h1 : light3B (toBs la) = true) (h2 : light4B hs = true) (h3 : light4B ks = true) (hm : mayB hs = true) (hst : standB la hs = true) :
    Calls Try.prog 4 #[.slice A la.length cap, .slice A1 hs.length k1, .slice A2 ks.length k2] w fun e w' => e = .returned (.bool true) ∧ Below w.heap.size w w' := by
  have hla := zeros_ok h1
  obtain ⟨sm1, sl1, ss1, so1⟩ := light4_small h2
  obtain ⟨sm2, sl2, ss2, so2⟩ := light4_small h3
  have l1 := light3_any A (toBs la) cap w hs0 (by rw [toBs_len]; omega)
  have l2 := light4_any A1 hs k1 w hk0 (by omega)
  have l3 := light4_any A2 ks k2 w gk0 (by omega)
  rw [toBs_len, h1] at l1
  rw [h2] at l2
  rw [h3] at l3
  have L1 := Lib.hid l1
  have L2 := Lib.hid l2
  have L3 := Lib.hid l3
  have SA := Lib.hid hs0
  have K1 := Lib.hid hk0
  have K2 := Lib.hid gk0
  have SM1 := Lib.hid sm1
  have SM2 := Lib.hid sm2
  clear l1 l2 l3 hs0 hk0 gk0 h1 h2 h3 sm1 sm2
  have ca := c.apply A A1 la hs cap k1 w SA.out RA K1.out RB SM1.out (by omega) (by omega)
  rw [show applE la hs = 0 by simp [applE, hm, hst]] at ca
  have CA := Lib.hid (told_okR ca)
  obtain ⟨hp0, hpm, _⟩ := mayF_plain hs none hm
  have HP0 := Lib.hid hp0
  have HPM : Hid (May (plains hs)) := hpm
  have HPS := Lib.hid (stands_of hp0 hst)
  have HLX : Hid ((refApp la (plains hs)).length ≤ 100000) := by have := refApp_len (la := la) (plains hs); show _ ≤ _; omega
  have HAT : Hid (∀ h ∈ hs, h.at_ ≤ 1000000) := fun h hh => by
    have := (HPS.out h.plain (List.mem_map.2 ⟨h, hh, rfl⟩)).1
    have h0 := hp0 h hh
    simp only [Hm.plain] at this
    omega
  have HM := Lib.hid hm
  have HST := Lib.hid hst
  clear ca hm hst hp0 hpm
  go_enter Try.func4, Try.ntmps4
  go_wp2_with fail
  refine (L1.out).mono ?_
  rintro e w' ⟨rfl, rfl⟩
  go_wp2_with fail
  refine (L2.out).mono ?_
  rintro e w' ⟨rfl, rfl⟩
  go_wp2_with fail
  refine (L3.out).mono ?_
  rintro e w' ⟨rfl, rfl⟩
  go_wp2_with fail
  refine (CA.out).mono ?_
  rintro e w1 ⟨A3, k3, rfl, hr3, hs3, hb⟩
  have hb1 := (Below.refl w.heap.size w).trans (hb.mono (Below.refl w.heap.size w).size)
  have SA := Lib.hid (SA.out.on hb)
  have K1 := Lib.hid (K1.out.on hb)
  have K2 := Lib.hid (K2.out.on hb)
  have S3 := Lib.hid hs3
  clear hb hs3
  go_wp2_with fail
  refine (may_b A1 hs k1 w1 K1.out (by omega) HM.out).mono ?_
  rintro e w2 ⟨rfl, hb⟩
  have hb2 := hb1.trans (hb.mono hb1.size)
  have SA := Lib.hid (SA.out.on hb)
  have K1 := Lib.hid (K1.out.on hb)
  have K2 := Lib.hid (K2.out.on hb)
  have S3 := Lib.hid (S3.out.on hb)
  clear hb hb1
  have cc := c.check A1 hs k1 w2 K1.out RB SM1.out (by omega)
  rw [HM.out] at cc
  simp only [if_true, if_false, Bool.false_eq_true] at cc
  have CC := Lib.hid cc
  clear cc
  go_wp2_with fail
  refine (CC.out).mono ?_
  rintro e w3 ⟨rfl, hb⟩
  have hb3 := hb2.trans (hb.mono hb2.size)
  have SA := Lib.hid (SA.out.on hb)
  have K1 := Lib.hid (K1.out.on hb)
  have K2 := Lib.hid (K2.out.on hb)
  have S3 := Lib.hid (S3.out.on hb)
  clear hb hb2
  have cs := c.same A1 A2 hs ks k1 k2 w3 K1.out K2.out SM1.out SM2.out
  have cr := fun w1 (h1 : Hks w1 w1.heap.size A1 hs) (h2 : Hks w1 w1.heap.size A2 ks) => refsameh_w A1 A2 hs ks k1 k2 w1 h1 h2 SM1.out SM2.out
  generalize decide (keys hs = keys ks) = d at cs cr
  have CS := Lib.hid cs
  have CR := Lib.hid cr
  have qd : (d == d) = true := by simp
  have qd2 : (d != d) = false := by simp
  clear cs cr
  go_wp2_with fail
  refine (CS.out).mono ?_
  rintro e w4 ⟨rfl, hb⟩
  have hb4 := hb3.trans (hb.mono hb3.size)
  have SA := Lib.hid (SA.out.on hb)
  have K1 := Lib.hid (K1.out.on hb)
  have K2 := Lib.hid (K2.out.on hb)
  have S3 := Lib.hid (S3.out.on hb)
  clear hb hb3
  go_wp2_with fail
  refine (CR.out w4 K1.out K2.out).mono ?_
  rintro e w5 ⟨rfl, hb⟩
  have hb5 := hb4.trans (hb.mono hb4.size)
  have SA := Lib.hid (SA.out.on hb)
  have K1 := Lib.hid (K1.out.on hb)
  have S3 := Lib.hid (S3.out.on hb)
  clear hb hb4
  have HR3 := Lib.hid hr3
  clear hr3
  go_wp2_with fail
  refine (appl_yes (refapply_any A A1 la hs cap k1 w5 SA.out RA K1.out HM.out (by omega) SM1.out) HST.out).mono ?_
  rintro e w6 ⟨A4, k4, rfl, hs4, hb⟩
  have hb6 := hb5.trans (hb.mono hb5.size)
  have SA := Lib.hid (SA.out.on hb)
  have K1 := Lib.hid (K1.out.on hb)
  have S3 := Lib.hid (S3.out.on hb)
  have S4 := Lib.hid hs4
  clear hb hb5 hs4
  go_wp2_with fail
  refine (c.invert A1 hs k1 w6 K1.out RB SM1.out (by omega) (fun _ => HAT.out)).mono ?_
  rintro e w7 ⟨A5, k5, ks5, rfl, hinv, hr5, hk5, hb⟩
  have hb7 := hb6.trans (hb.mono hb6.size)
  have SA := Lib.hid (SA.out.on hb)
  have K1 := Lib.hid (K1.out.on hb)
  have S3 := Lib.hid (S3.out.on hb)
  have S4 := Lib.hid (S4.out.on hb)
  have K5 := Lib.hid hk5
  clear hb hb6 hk5
  obtain ⟨hi1, hi2⟩ := hinv.1 HM.out
  obtain ⟨ha, hb', hc, hd, he, hf, hg⟩ := inv_facts HPM.out HPS.out rfl hi1 hi2 (by omega) (by omega) HLX.out
  have ca2 := c.apply A3 A5 (refApp la (plains hs)) ks5 k3 k5 w7 S3.out HR3.out K5.out hr5 hd he hf
  rw [hb', hc] at ca2
  have CA2 := Lib.hid (told_ok ca2)
  clear ca2 hi1 hi2 ha hb' hc hd he hf hg hinv hr5
  go_wp2_with fail
  refine (CA2.out).mono ?_
  rintro e w8 ⟨A6, k6, rfl, hs6, hb⟩
  have hb8 := hb7.trans (hb.mono hb7.size)
  have SA := Lib.hid (SA.out.on hb)
  have K1 := Lib.hid (K1.out.on hb)
  have S3 := Lib.hid (S3.out.on hb)
  have S4 := Lib.hid (S4.out.on hb)
  have S6 := Lib.hid hs6
  clear hb hb7 hs6
  go_wp2_with fail
  refine (ca4 w8).mono ?_
  rintro e w9 ⟨rfl, hb⟩
  have hb9 := hb8.trans (hb.mono hb8.size)
  have SA := Lib.hid (SA.out.on hb)
  have K1 := Lib.hid (K1.out.on hb)
  have S3 := Lib.hid (S3.out.on hb)
  have S4 := Lib.hid (S4.out.on hb)
  have S6 := Lib.hid (S6.out.on hb)
  clear hb hb8
  go_wp2_with fail
  refine (rsame_b A3 A4 (refApp la (plains hs)) k3 k4 w9 S3.out S4.out (by have := HLX.out; omega)).mono ?_
  rintro e w10 ⟨rfl, hb⟩
  have hb10 := hb9.trans (hb.mono hb9.size)
  have SA := Lib.hid (SA.out.on hb)
  have K1 := Lib.hid (K1.out.on hb)
  have S6 := Lib.hid (S6.out.on hb)
  clear hb hb9
  go_wp2_with fail
  refine (rsame_b A6 A la k6 cap w10 S6.out SA.out (by omega)).mono ?_
  rintro e w11 ⟨rfl, hb⟩
  have hb11 := hb10.trans (hb.mono hb10.size)
  have SA := Lib.hid (SA.out.on hb)
  have K1 := Lib.hid (K1.out.on hb)
  clear hb hb10
  go_wp2_with fail
  refine (c.invert A1 hs k1 w11 K1.out RB SM1.out (by omega) (fun _ => HAT.out)).mono ?_
  rintro e w12 ⟨A7, k7, ks7, rfl, hinv, hr7, hk7, hb⟩
  have hb12 := hb11.trans (hb.mono hb11.size)
  have SA := Lib.hid (SA.out.on hb)
  have K1 := Lib.hid (K1.out.on hb)
  have K7 := Lib.hid hk7
  clear hb hb11 hk7
  obtain ⟨hi1, hi2⟩ := hinv.1 HM.out
  obtain ⟨ha, hb', hc, hd, he, hf, hg⟩ := inv_facts HPM.out HPS.out rfl hi1 hi2 (by omega) (by omega) HLX.out
  have CI2 := Lib.hid (c.invert A7 ks7 k7 w12 K7.out hr7 hd he (fun _ => hg))
  have HA7 := Lib.hid ha
  have HI7 := Lib.hid hi1
  clear hi1 hi2 ha hb' hc hd he hf hg hinv hr7
  go_wp2_with fail
  refine (CI2.out).mono ?_
  rintro e w13 ⟨A8, k8, ks8, rfl, hinv, hr8, hk8, hb⟩
  have hb13 := hb12.trans (hb.mono hb12.size)
  have SA := Lib.hid (SA.out.on hb)
  have K1 := Lib.hid (K1.out.on hb)
  have K8 := Lib.hid hk8
  clear hb hb12 hk8
  obtain ⟨hi1, hi2⟩ := hinv.1 HA7.out
  rw [HI7.out] at hi1
  have hii := (there_back HPM.out HPS.out).2.2.2
  have hkk : keys ks8 = keys hs := keys_of hi2 HP0.out (hi1.trans hii)
  have hsm : Small ks8 := small_of' (hi1.trans hii) SM1.out
  have CK := Lib.hid (rsameh_b A8 A1 ks8 hs k8 k1 w13 K8.out K1.out hsm SM1.out hkk)
  clear hi1 hi2 hii hkk hsm hinv hr8
  go_wp2_with fail
  refine (CK.out).mono ?_
  rintro e w14 ⟨rfl, hb⟩
  have hb14 := hb13.trans (hb.mono hb13.size)
  have SA := Lib.hid (SA.out.on hb)
  clear hb hb13
  go_wp2
  go_ret
  exact ⟨rfl, hb14⟩


def aA : List (List UInt8) := [[97], [98], [99]]
def aB : List (List UInt8) := [[97], [120], [99]]
theorem hunks_aw : hunks aA aB = [⟨1, [[98]], [[120]]⟩] := rfl
theorem lcs_aw : lcs aA aB = 2 := by decide
theorem one_of {hs : List Hm} {g : Hk (List UInt8)} (h : plains hs = [g]) : ∃ x, hs = [x] ∧ x.plain = g := by
  match hs, h with
  | [x], h => exact ⟨x, rfl, by simpa [plains] using h⟩
theorem hunks4_aw (c : DiffC) (A A2 : Option Addr) (w : World) (hs : Strs w w.heap.size A (toBs aA)) (ht : Strs w w.heap.size A2 (toBs aB)) (hA : A ≠ none) (hA2 : A2 ≠ none) :
    Calls Try.prog 8 #[.slice A 3 3, .slice A2 3 3] w fun e w' => ∃ b o k h, e = .returned (.slice (some ⟨b, o, none⟩) 1 k) ∧ (h.at_ = 1 ∧ plains [h] = hunks aA aB) ∧ w'.cell? ⟨b, o, none⟩ = some (.int .i64 1) ∧ Room (some ⟨b, o, none⟩) 1 k ∧ Hks w' w'.heap.size (some ⟨b, o, none⟩) [h] ∧ Below w.heap.size w w' := by
  have h := c.hunks A A2 aA aB 3 3 w hs ht ⟨fun e => absurd e hA, by decide⟩ ⟨fun e => absurd e hA2, by decide⟩ (by decide) (by decide)
  refine Calls.mono h ?_
  rintro e w' ⟨A1, k1, hs1, rfl, ⟨hpl, hp0⟩, hr1, hk1, hb⟩
  obtain ⟨x, rfl, hx⟩ := one_of (hpl.trans hunks_aw)
  have h0 := hp0 x (by simp)
  have hx1 : x.at_ = 1 := by
    have := congrArg Hk.at_ hx
    simp only [Hm.plain] at this
    omega
  obtain ⟨b, off, rfl, _, c0, _, _⟩ := hk1.get (j := 0) (by simp)
  simp only [Nat.zero_mul, Nat.add_zero, List.getElem_cons_zero] at c0
  rw [hx1] at c0
  exact ⟨b, off, k1, x, rfl, ⟨hx1, hpl⟩, c0, hr1, hk1, hb⟩

set_option maxHeartbeats 1000000 in
set_option maxRecDepth 100000 in
theorem awake4_any (c : DiffC) (w : World) : Calls Try.prog 7 #[] w fun e w' => e = .returned (.bool true) ∧ Below w.heap.size w w' := by
  have sA : Strs (w.alloc (.cells #[.string ⟨#[97]⟩, .string ⟨#[98]⟩, .string ⟨#[99]⟩] 9)) (w.alloc (.cells #[.string ⟨#[97]⟩, .string ⟨#[98]⟩, .string ⟨#[99]⟩] 9)).heap.size (some ⟨w.heap.size, 0, none⟩) (toBs aA) := (strs_new w [⟨#[97]⟩, ⟨#[98]⟩, ⟨#[99]⟩]).more (by simp)
  have hb1 : Below w.heap.size w (w.alloc (.cells #[.string ⟨#[97]⟩, .string ⟨#[98]⟩, .string ⟨#[99]⟩] 9)) := (Below.refl _ _).alloc (Nat.le_refl _) _
  generalize hwa : w.alloc (.cells #[.string ⟨#[97]⟩, .string ⟨#[98]⟩, .string ⟨#[99]⟩] 9) = wa at sA hb1
  have sB : Strs (wa.alloc (.cells #[.string ⟨#[97]⟩, .string ⟨#[120]⟩, .string ⟨#[99]⟩] 9)) (wa.alloc (.cells #[.string ⟨#[97]⟩, .string ⟨#[120]⟩, .string ⟨#[99]⟩] 9)).heap.size (some ⟨wa.heap.size, 0, none⟩) (toBs aB) := (strs_new wa [⟨#[97]⟩, ⟨#[120]⟩, ⟨#[99]⟩]).more (by simp)
  have hbB : Below wa.heap.size wa (wa.alloc (.cells #[.string ⟨#[97]⟩, .string ⟨#[120]⟩, .string ⟨#[99]⟩] 9)) := (Below.refl _ _).alloc (Nat.le_refl _) _
  have sA2 := sA.on hbB
  have hb2 := hb1.trans (hbB.mono hb1.size)
  have ch := hunks4_aw c _ _ _ sA2 sB (by simp) (by simp)
  have hws : wa.heap.size = w.heap.size + 1 := by rw [← hwa]; simp
  rw [← hwa] at sA2 sB hb2 ch
  rw [hwa, hws, ← hwa] at sB ch
  have SA := Lib.hid sA2
  have SB := Lib.hid sB
  have CH := Lib.hid ch
  have HB0 := Lib.hid hb2
  clear sA hb1 sB hbB sA2 hb2 ch hwa hws
  go_enter Try.func7, Try.ntmps7
  go_wp2_with fail
  refine (CH.out).mono ?_
  rintro e w1 ⟨b, off, k1, h, rfl, hh, hcz, hr1, hk1, hb⟩
  have hb1 := HB0.out.trans (hb.mono HB0.out.size)
  have SA := Lib.hid (SA.out.on hb)
  have SB := Lib.hid (SB.out.on hb)
  have K1 := Lib.hid hk1
  clear hb hk1
  obtain ⟨hat, hpl⟩ := hh
  have hp0 : ∀ x ∈ [h], 0 ≤ x.at_ := by intro x hx; simp only [List.mem_singleton] at hx; subst hx; omega
  obtain ⟨hm, he0, happ, hsm, hl, hsum, hat2, hso, hsn, hmay, hstd⟩ := hunk_facts (la := aA) (lc := aB) hpl hp0 (by decide) (by decide)
  have HM := Lib.hid hm
  have HH1 := Lib.hid hat
  have HPM := Lib.hid hmay
  have HPS := Lib.hid (stands_of hp0 hstd)
  have HAT := Lib.hid hat2
  have HSM := Lib.hid hsm
  have HAPP := Lib.hid happ
  have HR1 := Lib.hid hr1
  have hs1 : sumOld (plains [h]) = 1 := by have := lcs_aw; rw [this] at hso; have e : aA.length = 3 := rfl; omega
  have hs2 : sumNew (plains [h]) = 1 := by have := lcs_aw; rw [this] at hsn; have e : aB.length = 3 := rfl; omega
  have HS1 := Lib.hid hs1
  have HS2 := Lib.hid hs2
  have ca := c.apply (some ⟨w.heap.size, 0, none⟩) (some ⟨b, off, none⟩) aA [h] 3 k1 w1 SA.out ⟨fun e => (by cases e), by decide⟩ K1.out hr1 hsm (by simp) hsum
  rw [he0, happ] at ca
  have cb : Calls Try.prog 9 #[.slice (some ⟨w.heap.size, 0, none⟩) 3 3, .slice (some ⟨b, off, none⟩) 1 k1] w1 fun e w' => ∃ A k, e = .returned (.tuple #[.slice A 3 k, .int .i64 0]) ∧ Strs w' w'.heap.size A (toBs aB) ∧ Below w1.heap.size w1 w' := told_ok ca
  have CA := Lib.hid cb
  clear hat hpl hp0 hm he0 happ hsm hl hsum hat2 hso hsn hmay hstd hr1 hcz ca cb hs1 hs2
  go_wp2_with fail
  refine (CA.out).mono ?_
  rintro e w2 ⟨A2, k2, rfl, hs2, hb⟩
  have hb2 := hb1.trans (hb.mono hb1.size)
  have SA := Lib.hid (SA.out.on hb)
  have SB := Lib.hid (SB.out.on hb)
  have K1 := Lib.hid (K1.out.on hb)
  have S2 := Lib.hid hs2
  clear hb hb1 hs2
  have ci : Calls Try.prog 10 #[.slice (some ⟨b, off, none⟩) 1 k1] w2 (InvTold w2 [h]) := c.invert (some ⟨b, off, none⟩) [h] k1 w2 K1.out HR1.out HSM.out (by simp) (fun _ => HAT.out)
  have CI := Lib.hid ci
  clear ci
  go_wp2_with fail
  refine (CI.out).mono ?_
  rintro e w3 ⟨A3, k3, ks, rfl, hinv, hr3, hk3, hb⟩
  have hb3 := hb2.trans (hb.mono hb2.size)
  have SA := Lib.hid (SA.out.on hb)
  have SB := Lib.hid (SB.out.on hb)
  have K1 := Lib.hid (K1.out.on hb)
  have S2 := Lib.hid (S2.out.on hb)
  have K3 := Lib.hid hk3
  clear hb hb2 hk3
  obtain ⟨hi1, hi2⟩ := hinv.1 HM.out
  obtain ⟨ha, hb', hc, hd, he, hf, hg⟩ := inv_facts (la := aA) (lc := aB) HPM.out HPS.out HAPP.out hi1 hi2 (by rw [HS1.out, HS2.out]; decide) (by simp) (by decide)
  have ca := c.apply (some ⟨w.heap.size + 1, 0, none⟩) A3 aB ks 3 k3 w3 SB.out ⟨fun e => (by cases e), by decide⟩ K3.out hr3 hd he hf
  rw [hb', hc] at ca
  have cb : Calls Try.prog 9 #[.slice (some ⟨w.heap.size + 1, 0, none⟩) 3 3, .slice A3 ks.length k3] w3 fun e w' => ∃ A k, e = .returned (.tuple #[.slice A 3 k, .int .i64 0]) ∧ Strs w' w'.heap.size A (toBs aA) ∧ Below w3.heap.size w3 w' := told_ok ca
  have CA2 := Lib.hid cb
  clear ca cb hi1 hi2 ha hb' hc hd he hf hg hinv hr3
  go_wp2_with fail
  refine (CA2.out).mono ?_
  rintro e w4 ⟨A4, k4, rfl, hs4, hb⟩
  have hb4 := hb3.trans (hb.mono hb3.size)
  have SA := Lib.hid (SA.out.on hb)
  have SB := Lib.hid (SB.out.on hb)
  have K1 := Lib.hid (K1.out.on hb)
  have S2 := Lib.hid (S2.out.on hb)
  have S4 := Lib.hid hs4
  clear hb hb3 hs4
  have cz : Calls Try.prog 12 #[.slice (some ⟨b, off, none⟩) 1 k1] w4 fun e w' => e = .returned (.tuple #[.int .i64 1, .int .i64 1]) ∧ Below w4.heap.size w4 w' := by
    have := c.size (some ⟨b, off, none⟩) [h] k1 w4 K1.out HSM.out (by simp)
    rw [HS1.out, HS2.out] at this
    exact this
  have CZ := Lib.hid cz
  clear cz
  go_wp2_with fail
  refine (CZ.out).mono ?_
  rintro e w5 ⟨rfl, hb⟩
  have hb5 := hb4.trans (hb.mono hb4.size)
  have SA := Lib.hid (SA.out.on hb)
  have SB := Lib.hid (SB.out.on hb)
  have K1 := Lib.hid (K1.out.on hb)
  have S2 := Lib.hid (S2.out.on hb)
  have S4 := Lib.hid (S4.out.on hb)
  clear hb hb4
  have hcz : w5.cell? ⟨b, off, none⟩ = some (.int .i64 1) := by
    obtain ⟨b2, o2, e2, _, c0, _, _⟩ := K1.out.get (j := 0) (by simp)
    cases e2
    simp only [Nat.zero_mul, Nat.add_zero, List.getElem_cons_zero] at c0
    rw [c0, HH1.out]
  have cq : Calls Try.prog 15 #[.slice A2 3 k2, .slice (some ⟨w.heap.size + 1, 0, none⟩) 3 3] w5 fun e w' => e = .returned (.bool true) ∧ Below w5.heap.size w5 w' := rsame_b A2 (some ⟨w.heap.size + 1, 0, none⟩) aB k2 3 w5 S2.out SB.out (by decide)
  have CQ := Lib.hid cq
  clear cq
  go_wp2_with fail
  refine (CQ.out).mono ?_
  rintro e w6 ⟨rfl, hb⟩
  have hb6 := hb5.trans (hb.mono hb5.size)
  have SA := Lib.hid (SA.out.on hb)
  have SB := Lib.hid (SB.out.on hb)
  have K1 := Lib.hid (K1.out.on hb)
  have S4 := Lib.hid (S4.out.on hb)
  clear hb hb5
  clear hcz
  have cq : Calls Try.prog 15 #[.slice A4 3 k4, .slice (some ⟨w.heap.size, 0, none⟩) 3 3] w6 fun e w' => e = .returned (.bool true) ∧ Below w6.heap.size w6 w' := rsame_b A4 (some ⟨w.heap.size, 0, none⟩) aA k4 3 w6 S4.out SA.out (by decide)
  have CQ2 := Lib.hid cq
  clear cq
  go_wp2_with fail
  refine (CQ2.out).mono ?_
  rintro e w7 ⟨rfl, hb⟩
  have hb7 := hb6.trans (hb.mono hb6.size)
  have SA := Lib.hid (SA.out.on hb)
  have SB := Lib.hid (SB.out.on hb)
  have K1 := Lib.hid (K1.out.on hb)
  clear hb hb6
  have cl : Calls Try.prog 16 #[.slice (some ⟨w.heap.size, 0, none⟩) 3 3, .slice (some ⟨w.heap.size + 1, 0, none⟩) 3 3] w7 fun e w' => e = .returned (.int .i64 2) ∧ Below w7.heap.size w7 w' := by
    have := c.alike (some ⟨w.heap.size, 0, none⟩) (some ⟨w.heap.size + 1, 0, none⟩) aA aB 3 3 w7 SA.out SB.out ⟨fun e => (by cases e), by decide⟩ ⟨fun e => (by cases e), by decide⟩ (by decide) (by decide)
    rw [lcs_aw] at this
    exact this
  have CL := Lib.hid cl
  clear cl
  go_wp2_with fail
  refine (CL.out).mono ?_
  rintro e w8 ⟨rfl, hb⟩
  have hb8 := hb7.trans (hb.mono hb7.size)
  have SA := Lib.hid (SA.out.on hb)
  have SB := Lib.hid (SB.out.on hb)
  have K1 := Lib.hid (K1.out.on hb)
  clear hb hb7
  have ck : Calls Try.prog 19 #[.slice (some ⟨b, off, none⟩) 1 k1] w8 fun e w' => e = .returned (.int .i64 0) ∧ Below w8.heap.size w8 w' := by
    have := c.check (some ⟨b, off, none⟩) [h] k1 w8 K1.out HR1.out HSM.out (by simp)
    rw [HM.out] at this
    exact this
  have CK := Lib.hid ck
  clear ck
  go_wp2_with fail
  refine (CK.out).mono ?_
  rintro e w9 ⟨rfl, hb⟩
  have hb9 := hb8.trans (hb.mono hb8.size)
  have SA := Lib.hid (SA.out.on hb)
  have SB := Lib.hid (SB.out.on hb)
  have K1 := Lib.hid (K1.out.on hb)
  clear hb hb8
  go_wp2
  go_ret
  exact ⟨rfl, hb9⟩

set_option maxRecDepth 100000 in
theorem hunks_dark1 (c : DiffC) (A A2 : Option Addr) (la lc : List (List UInt8)) (cap cap2 : Nat) (w : World) (hs0 : Strs w w.heap.size A (toBs la)) (ht0 : Strs w w.heap.size A2 (toBs lc)) (hn : la.length ≤ 9223372036854775807) (hn2 : lc.length ≤ 9223372036854775807) (h1 : light3B (toBs la) = false) :
    Calls Try.prog 3 #[.slice A la.length cap, .slice A2 lc.length cap2] w fun e w' => e = .returned (.bool true) ∧ Below w.heap.size w w' := by
  have l1 := light3_any A (toBs la) cap w hs0 (by rw [toBs_len]; exact hn)
  rw [toBs_len, h1] at l1
  have L1 := Lib.hid l1
  clear l1
  clear hs0 ht0 h1
  go_enter Try.func3, Try.ntmps3
  go_wp2_with fail
  refine L1.out.mono ?_
  rintro e w' ⟨rfl, rfl⟩
  go_wp2_with fail
  refine (awake4_any c w).mono ?_
  rintro e w2 ⟨rfl, hb⟩
  go_wp2
  go_ret
  exact ⟨rfl, hb⟩

set_option maxRecDepth 100000 in
theorem hunks_dark2 (c : DiffC) (A A2 : Option Addr) (la lc : List (List UInt8)) (cap cap2 : Nat) (w : World) (hs0 : Strs w w.heap.size A (toBs la)) (ht0 : Strs w w.heap.size A2 (toBs lc)) (hn : la.length ≤ 9223372036854775807) (hn2 : lc.length ≤ 9223372036854775807) (h1 : light3B (toBs la) = true) (h2 : light3B (toBs lc) = false) :
    Calls Try.prog 3 #[.slice A la.length cap, .slice A2 lc.length cap2] w fun e w' => e = .returned (.bool true) ∧ Below w.heap.size w w' := by
  have l1 := light3_any A (toBs la) cap w hs0 (by rw [toBs_len]; exact hn)
  rw [toBs_len, h1] at l1
  have L1 := Lib.hid l1
  clear l1
  have l2 := light3_any A2 (toBs lc) cap2 w ht0 (by rw [toBs_len]; exact hn2)
  rw [toBs_len, h2] at l2
  have L2 := Lib.hid l2
  clear l2
  clear hs0 ht0 h1 h2
  go_enter Try.func3, Try.ntmps3
  go_wp2_with fail
  refine L1.out.mono ?_
  rintro e w' ⟨rfl, rfl⟩
  go_wp2_with fail
  refine L2.out.mono ?_
  rintro e w' ⟨rfl, rfl⟩
  go_wp2_with fail
  refine (awake4_any c w).mono ?_
  rintro e w2 ⟨rfl, hb⟩
  go_wp2
  go_ret
  exact ⟨rfl, hb⟩

set_option maxRecDepth 100000 in
theorem applies_dark1 (c : DiffC) (A A1 A2 : Option Addr) (la : List (List UInt8)) (hs ks : List Hm) (cap k1 k2 : Nat) (w : World) (hs0 : Strs w w.heap.size A (toBs la)) (hk0 : Hks w w.heap.size A1 hs) (gk0 : Hks w w.heap.size A2 ks) (hn : la.length ≤ 9223372036854775807) (hn2 : hs.length ≤ 9223372036854775807) (hn3 : ks.length ≤ 9223372036854775807) (h1 : light3B (toBs la) = false) :
    Calls Try.prog 4 #[.slice A la.length cap, .slice A1 hs.length k1, .slice A2 ks.length k2] w fun e w' => e = .returned (.bool true) ∧ Below w.heap.size w w' := by
  have l1 := light3_any A (toBs la) cap w hs0 (by rw [toBs_len]; exact hn)
  rw [toBs_len, h1] at l1
  have L1 := Lib.hid l1
  clear l1
  clear hs0 hk0 gk0 h1
  go_enter Try.func4, Try.ntmps4
  go_wp2_with fail
  refine L1.out.mono ?_
  rintro e w' ⟨rfl, rfl⟩
  go_wp2_with fail
  refine (awake4_any c w).mono ?_
  rintro e w2 ⟨rfl, hb⟩
  go_wp2
  go_ret
  exact ⟨rfl, hb⟩

set_option maxRecDepth 100000 in
theorem applies_dark2 (c : DiffC) (A A1 A2 : Option Addr) (la : List (List UInt8)) (hs ks : List Hm) (cap k1 k2 : Nat) (w : World) (hs0 : Strs w w.heap.size A (toBs la)) (hk0 : Hks w w.heap.size A1 hs) (gk0 : Hks w w.heap.size A2 ks) (hn : la.length ≤ 9223372036854775807) (hn2 : hs.length ≤ 9223372036854775807) (hn3 : ks.length ≤ 9223372036854775807) (h1 : light3B (toBs la) = true) (h2 : light4B hs = false) :
    Calls Try.prog 4 #[.slice A la.length cap, .slice A1 hs.length k1, .slice A2 ks.length k2] w fun e w' => e = .returned (.bool true) ∧ Below w.heap.size w w' := by
  have l1 := light3_any A (toBs la) cap w hs0 (by rw [toBs_len]; exact hn)
  rw [toBs_len, h1] at l1
  have L1 := Lib.hid l1
  clear l1
  have l2 := light4_any A1 hs k1 w hk0 hn2
  rw [h2] at l2
  have L2 := Lib.hid l2
  clear l2
  clear hs0 hk0 gk0 h1 h2
  go_enter Try.func4, Try.ntmps4
  go_wp2_with fail
  refine L1.out.mono ?_
  rintro e w' ⟨rfl, rfl⟩
  go_wp2_with fail
  refine L2.out.mono ?_
  rintro e w' ⟨rfl, rfl⟩
  go_wp2_with fail
  refine (awake4_any c w).mono ?_
  rintro e w2 ⟨rfl, hb⟩
  go_wp2
  go_ret
  exact ⟨rfl, hb⟩

set_option maxRecDepth 100000 in
theorem applies_dark3 (c : DiffC) (A A1 A2 : Option Addr) (la : List (List UInt8)) (hs ks : List Hm) (cap k1 k2 : Nat) (w : World) (hs0 : Strs w w.heap.size A (toBs la)) (hk0 : Hks w w.heap.size A1 hs) (gk0 : Hks w w.heap.size A2 ks) (hn : la.length ≤ 9223372036854775807) (hn2 : hs.length ≤ 9223372036854775807) (hn3 : ks.length ≤ 9223372036854775807) (h1 : light3B (toBs la) = true) (h2 : light4B hs = true) (h3 : light4B ks = false) :
    Calls Try.prog 4 #[.slice A la.length cap, .slice A1 hs.length k1, .slice A2 ks.length k2] w fun e w' => e = .returned (.bool true) ∧ Below w.heap.size w w' := by
  have l1 := light3_any A (toBs la) cap w hs0 (by rw [toBs_len]; exact hn)
  rw [toBs_len, h1] at l1
  have L1 := Lib.hid l1
  clear l1
  have l2 := light4_any A1 hs k1 w hk0 hn2
  rw [h2] at l2
  have L2 := Lib.hid l2
  clear l2
  have l3 := light4_any A2 ks k2 w gk0 hn3
  rw [h3] at l3
  have L3 := Lib.hid l3
  clear l3
  clear hs0 hk0 gk0 h1 h2 h3
  go_enter Try.func4, Try.ntmps4
  go_wp2_with fail
  refine L1.out.mono ?_
  rintro e w' ⟨rfl, rfl⟩
  go_wp2_with fail
  refine L2.out.mono ?_
  rintro e w' ⟨rfl, rfl⟩
  go_wp2_with fail
  refine L3.out.mono ?_
  rintro e w' ⟨rfl, rfl⟩
  go_wp2_with fail
  refine (awake4_any c w).mono ?_
  rintro e w2 ⟨rfl, hb⟩
  go_wp2
  go_ret
  exact ⟨rfl, hb⟩

theorem diffhunks_any (c : DiffC) (A A2 : Option Addr) (ss tt : List ByteArray) (cap cap2 : Nat) (w : World) (hs0 : Strs w w.heap.size A ss) (hn : ss.length ≤ 9223372036854775807) (RA : Room A ss.length cap) (ht0 : Strs w w.heap.size A2 tt) (hn2 : tt.length ≤ 9223372036854775807) (RB : Room A2 tt.length cap2) :
    Calls Try.prog 3 #[.slice A ss.length cap, .slice A2 tt.length cap2] w fun e w' => e = .returned (.bool true) ∧ Below w.heap.size w w' := by
  obtain ⟨la, rfl⟩ : ∃ la, ss = toBs la := ⟨lists ss, (toBs_lists ss).symm⟩
  obtain ⟨lc, rfl⟩ : ∃ lc, tt = toBs lc := ⟨lists tt, (toBs_lists tt).symm⟩
  rw [toBs_len] at hn hn2 RA RB ⊢
  rw [toBs_len]
  cases h1 : light3B (toBs la) with
  | false => exact hunks_dark1 c A A2 la lc cap cap2 w hs0 ht0 hn hn2 h1
  | true =>
    cases h2 : light3B (toBs lc) with
    | false => exact hunks_dark2 c A A2 la lc cap cap2 w hs0 ht0 hn hn2 h1 h2
    | true => exact diffhunks_light c (awake4_any c) A A2 la lc cap cap2 w hs0 ht0 RA RB h1 h2
theorem diffapplies_any (c : DiffC) (A A1 A2 : Option Addr) (ss : List ByteArray) (hs ks : List Hm) (cap k1 k2 : Nat) (w : World) (hs0 : Strs w w.heap.size A ss) (hn : ss.length ≤ 9223372036854775807) (RA : Room A ss.length cap) (hk0 : Hks w w.heap.size A1 hs) (hn2 : hs.length ≤ 9223372036854775807) (RB : Room A1 hs.length k1) (gk0 : Hks w w.heap.size A2 ks) (hn3 : ks.length ≤ 9223372036854775807) :
    Calls Try.prog 4 #[.slice A ss.length cap, .slice A1 hs.length k1, .slice A2 ks.length k2] w fun e w' => e = .returned (.bool true) ∧ Below w.heap.size w w' := by
  obtain ⟨la, rfl⟩ : ∃ la, ss = toBs la := ⟨lists ss, (toBs_lists ss).symm⟩
  rw [toBs_len] at hn RA ⊢
  cases h1 : light3B (toBs la) with
  | false => exact applies_dark1 c A A1 A2 la hs ks cap k1 k2 w hs0 hk0 gk0 hn hn2 hn3 h1
  | true =>
    cases h2 : light4B hs with
    | false => exact applies_dark2 c A A1 A2 la hs ks cap k1 k2 w hs0 hk0 gk0 hn hn2 hn3 h1 h2
    | true =>
      cases h3 : light4B ks with
      | false => exact applies_dark3 c A A1 A2 la hs ks cap k1 k2 w hs0 hk0 gk0 hn hn2 hn3 h1 h2 h3
      | true =>
        cases hm : mayB hs with
        | false => exact applies_nomay c (awake4_any c) A A1 A2 la hs ks cap k1 k2 w hs0 hk0 gk0 RA RB h1 h2 h3 hm
        | true =>
          cases hst : standB la hs with
          | false => exact applies_no c (awake4_any c) A A1 A2 la hs ks cap k1 k2 w hs0 hk0 gk0 RA RB h1 h2 h3 hm hst
          | true => exact applies_yes c (awake4_any c) A A1 A2 la hs ks cap k1 k2 w hs0 hk0 gk0 RA RB h1 h2 h3 hm hst
end Go.Proofs.Ytmffmhadimeplaa
