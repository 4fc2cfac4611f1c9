
/- The statement LinesSplits: its walk. -/
import Derived.Test.YtokkkjgdfnkjoaaDoorLineTexts
namespace Go.Proofs.YtokkkjgdfnkjoaaDoor
open Go.RowKit
set_option linter.unusedVariables false

theorem splitGo_sizes : ∀ (r cur : List UInt8), (∀ x ∈ (splitGo cur r).1, x.length ≤ cur.length + r.length) ∧ (splitGo cur r).1.length ≤ r.length
  | [], cur => by simp [splitGo]
  | b :: r, cur => by
    rw [splitGo]
    split
    · obtain ⟨h1, h2⟩ := splitGo_sizes r []
      refine ⟨fun x hx => ?_, by simp only [List.length_cons]; omega⟩
      rcases List.mem_cons.1 hx with rfl | hx
      · omega
      · have := h1 x hx
        simp only [List.length_cons, List.length_nil] at *
        omega
    · obtain ⟨h1, h2⟩ := splitGo_sizes r (cur ++ [b])
      refine ⟨fun x hx => ?_, by simp only [List.length_cons]; omega⟩
      have := h1 x hx
      simp only [List.length_cons, List.length_append, List.length_nil] at *
      omega
theorem getE_yes {l : List UInt8} (h : getE l = 0) : ∃ ls, l = listB ls ∧ checkN (toBs ls) = 0 ∧ rList l = (ls, 0, []) := by
  rcases hr : rList l with ⟨ls, e, r⟩
  unfold getE at h
  rw [hr] at h
  simp only at h
  split at h
  · rename_i h0; exact absurd h h0
  · rename_i h0
    simp only [ne_eq, Decidable.not_not] at h0
    subst h0
    split at h
    · cases h
    · rename_i h1
      simp only [ne_eq, Decidable.not_not] at h1
      subst h1
      have := rList_back hr
      rw [List.append_nil] at this
      exact ⟨ls, this, h, rfl⟩

section
variable (s : ByteArray) (w : World)
theorem rsplit_l (hs : s.size ≤ 1000000) : Calls Tryd.prog 17 #[.string s] w fun e w' => ∃ A c, e = .returned (.tuple #[.slice A (splitGo [] s.data.toList).1.length c, .bool (splitGo [] s.data.toList).2]) ∧ Strs w' w'.heap.size A (toBs (splitGo [] s.data.toList).1) ∧ Below w.heap.size w w' := by
  refine (refsplit_any s w hs).mono ?_
  rintro e w' ⟨v, rfl, ho, hb⟩
  obtain ⟨A, cap, rfl, hs, _, _⟩ := ho.strs
  exact ⟨A, cap, rfl, hs, hb⟩
theorem lsplit_0 (m : List (List UInt8)) (hs : s.size ≤ 1000000) (hT : Tabs w) (hm : (splitGo [] s.data.toList).1 = m) (h0 : splitE s = 0) : Calls Tryd.prog 13 #[.string s] w fun e w' => ∃ A c, e = .returned (.tuple #[.slice A m.length c, .int .i64 0]) ∧ Strs w' w'.heap.size A (toBs m) ∧ Below w.heap.size w w' := by
  refine (lsplit_any s w hs hT).mono ?_
  rintro e w' ⟨A, c, l, rfl, ⟨hl, _⟩, hA, hs, hb⟩
  obtain rfl := (hl h0).trans hm
  rw [h0]
  exact ⟨A, c, rfl, hs, hb⟩
theorem lsplit_1 (er : Int) (hs : s.size ≤ 1000000) (hT : Tabs w) (he : splitE s = er) (h0 : er ≠ 0) : Calls Tryd.prog 13 #[.string s] w fun e w' => ∃ A c, e = .returned (.tuple #[.slice A 0 c, .int .i64 er]) ∧ Below w.heap.size w w' := by
  refine (lsplit_any s w hs hT).mono ?_
  rintro e w' ⟨A, c, l, rfl, ⟨_, hl⟩, hA, hs, hb⟩
  rw [he] at hl ⊢
  obtain rfl := hl h0
  exact ⟨A, c, rfl, hb⟩
theorem lget_1 (er : Int) (hs : s.size ≤ 1000000) (hT : Tabs w) (he : getE s.data.toList = er) (h0 : er ≠ 0) : Calls Tryd.prog 14 #[.string s] w fun e w' => ∃ A c, e = .returned (.tuple #[.slice A 0 c, .int .i64 er]) ∧ Below w.heap.size w w' := by
  refine (lget_any s w hs hT).mono ?_
  rintro e w' ⟨A, c, l, rfl, ⟨_, hl⟩, hA, hs, hb⟩
  rw [he] at hl ⊢
  obtain rfl := hl h0
  exact ⟨A, c, rfl, hb⟩
theorem lget_0 (ls : List (List UInt8)) (hs : s.size ≤ 1000000) (hT : Tabs w) (hl : rList s.data.toList = (ls, 0, [])) (h0 : getE s.data.toList = 0) : Calls Tryd.prog 14 #[.string s] w fun e w' => ∃ A c, e = .returned (.tuple #[.slice A ls.length c, .int .i64 0]) ∧ Strs w' w'.heap.size A (toBs ls) ∧ Below w.heap.size w w' := by
  refine (lget_any s w hs hT).mono ?_
  rintro e w' ⟨A, c, l, rfl, ⟨hl2, _⟩, hA, hs, hb⟩
  obtain rfl := (hl2 h0).trans (by rw [hl])
  rw [h0]
  exact ⟨A, c, rfl, hs, hb⟩

set_option maxRecDepth 100000 in
theorem splits_long (hs : 1000 < s.size) (hT : Tabs w) : Calls Tryd.prog 4 #[.string s] w fun e w' => e = .returned (.bool true) ∧ Below w.heap.size w w' := by
  have HT := Lib.hid hT
  clear hT
  go_enter Tryd.func4, Tryd.ntmps4
  go_wp2_with fail
  refine (awake3_any w HT.out).mono ?_
  rintro e w2 ⟨rfl, hb⟩
  go_wp2
  go_ret
  exact ⟨rfl, hb⟩


set_option maxRecDepth 100000 in
theorem splits_10 (hs : s.size ≤ 1000) (hT : Tabs w) (m : List (List UInt8)) (hm : splitGo [] s.data.toList = (m, true)) (he : checkN (toBs m) = 0) (ls : List (List UInt8)) (hl : s.data.toList = listB ls) (hc : checkN (toBs ls) = 0) (hr : rList s.data.toList = (ls, 0, [])) : Calls Tryd.prog 4 #[.string s] w fun e w' => e = .returned (.bool true) ∧ Below w.heap.size w w' := by
  have HT := Lib.hid hT
  have hlen : s.data.toList.length ≤ 1000 := by simpa using hs
  obtain ⟨hz1, hz2⟩ := splitGo_sizes s.data.toList []
  rw [hm] at hz1 hz2
  have HZ : Hid (∀ x ∈ m, x.length ≤ 1000000) := fun x hx => by have := hz1 x hx; simp at this; omega
  have hml : m.length ≤ 1000 := by simp at hz2; omega
  have cR := fun w1 => rsplit_l s w1 (by omega)
  rw [hm] at cR
  have CR := Lib.hid cR
  have cC := fun w1 A2 c2 (hb : Below w.heap.size w w1) (h2 : Strs w1 w1.heap.size A2 (toBs m)) => rcheck_l A2 m c2 w1 h2 (by omega) HZ.out (HT.out.on hb)
  rw [he] at cC
  have CC := Lib.hid cC
  have CS := Lib.hid (fun w1 (hb : Below w.heap.size w w1) => lsplit_0 s w1 m (by omega) (HT.out.on hb) (by rw [hm]) (by unfold splitE; rw [hm]; exact he))
  have c9 := fun w1 A2 c2 A3 c3 (h2 : Strs w1 w1.heap.size A2 (toBs m)) (h3 : Strs w1 w1.heap.size A3 (toBs m)) => rsame_l A2 A3 m m c2 c3 w1 h2 h3 (by omega) (by omega)
  simp only [decide_true] at c9
  have C9 := Lib.hid c9
  clear c9 he
  have CG := Lib.hid (fun w1 (hb : Below w.heap.size w w1) => lget_0 s w1 ls (by omega) (HT.out.on hb) hr (by unfold getE; rw [hr]; simpa using hc))
  have hl1 : ∀ x ∈ ls, x.length ≤ 1000000 := fun x hx => by
    have := listB_mem hx
    rw [← hl] at this
    omega
  have hl2 : ls.length ≤ 1000 := by
    have := listB_len ls
    rw [← hl] at this
    omega
  have hsb : toB (listB ls) = s := by rw [← hl, toB_of]
  have cL := fun w1 A2 c2 (h2 : Strs w1 w1.heap.size A2 (toBs ls)) => rlist_l A2 ls c2 w1 h2 (by omega) (by rw [← hl]; omega)
  rw [hsb] at cL
  have CL := Lib.hid cL
  have cK := fun w1 A2 c2 (hb : Below w.heap.size w w1) (h2 : Strs w1 w1.heap.size A2 (toBs ls)) => rcheck_l A2 ls c2 w1 h2 (by omega) hl1 (HT.out.on hb)
  rw [hc] at cK
  have CK := Lib.hid cK
  clear cL cK hl1 hl2 hsb hl hc hr
  clear hT hm hlen hz1 hz2 cR cC hml
  go_enter Tryd.func4, Tryd.ntmps4
  go_wp2_with fail
  refine (CS.out w (Below.refl _ _)).mono ?_
  rintro e w1 ⟨A1, k1, rfl, hs1, hb1⟩
  have S1 := Lib.hid hs1
  clear hs1
  go_wp2_with fail
  refine (CR.out w1).mono ?_
  rintro e w2 ⟨A2, k2, rfl, hs2, hb⟩
  have hb2 := hb1.trans (hb.mono hb1.size)
  have S1 := Lib.hid (S1.out.on hb)
  have S2 := Lib.hid hs2
  clear hs2
  clear hb hb1
  go_wp2_with fail
  refine (CC.out w2 A2 k2 hb2 S2.out).mono ?_
  rintro e w3 ⟨rfl, hb⟩
  have hb3 := hb2.trans (hb.mono hb2.size)
  have S1 := Lib.hid (S1.out.on hb)
  have S2 := Lib.hid (S2.out.on hb)
  clear hb hb2
  go_wp2_with fail
  refine (C9.out w3 A1 k1 A2 k2 S1.out S2.out).mono ?_
  rintro e w4 ⟨rfl, hb⟩
  have hb4 := hb3.trans (hb.mono hb3.size)
  have S1 := Lib.hid (S1.out.on hb)
  have S2 := Lib.hid (S2.out.on hb)
  clear hb hb3
  go_wp2_with fail
  refine (CG.out w4 hb4).mono ?_
  rintro e w5 ⟨A3, k3, rfl, hs3, hb⟩
  have hb5 := hb4.trans (hb.mono hb4.size)
  have S3 := Lib.hid hs3
  clear hs3
  clear hb hb4
  go_wp2_with fail
  refine (awake3_any w5 (HT.out.on hb5)).mono ?_
  rintro e w6 ⟨rfl, hb⟩
  have hb6 := hb5.trans (hb.mono hb5.size)
  have S3 := Lib.hid (S3.out.on hb)
  clear hb hb5
  go_wp2_with fail
  refine (CL.out w6 A3 k3 S3.out).mono ?_
  rintro e w7 ⟨rfl, hb⟩
  have hb7 := hb6.trans (hb.mono hb6.size)
  have S3 := Lib.hid (S3.out.on hb)
  clear hb hb6
  go_wp2_with fail
  refine (CK.out w7 A3 k3 hb7 S3.out).mono ?_
  rintro e w8 ⟨rfl, hb⟩
  have hb8 := hb7.trans (hb.mono hb7.size)
  have S3 := Lib.hid (S3.out.on hb)
  clear hb hb7
  go_wp2
  go_ret
  exact ⟨rfl, hb8⟩

set_option maxRecDepth 100000 in
theorem splits_11 (hs : s.size ≤ 1000) (hT : Tabs w) (m : List (List UInt8)) (hm : splitGo [] s.data.toList = (m, true)) (he : checkN (toBs m) = 0) (gr : Int) (hg : getE s.data.toList = gr) (hg0 : gr ≠ 0) : Calls Tryd.prog 4 #[.string s] w fun e w' => e = .returned (.bool true) ∧ Below w.heap.size w w' := by
  have HT := Lib.hid hT
  have hlen : s.data.toList.length ≤ 1000 := by simpa using hs
  obtain ⟨hz1, hz2⟩ := splitGo_sizes s.data.toList []
  rw [hm] at hz1 hz2
  have HZ : Hid (∀ x ∈ m, x.length ≤ 1000000) := fun x hx => by have := hz1 x hx; simp at this; omega
  have hml : m.length ≤ 1000 := by simp at hz2; omega
  have cR := fun w1 => rsplit_l s w1 (by omega)
  rw [hm] at cR
  have CR := Lib.hid cR
  have cC := fun w1 A2 c2 (hb : Below w.heap.size w w1) (h2 : Strs w1 w1.heap.size A2 (toBs m)) => rcheck_l A2 m c2 w1 h2 (by omega) HZ.out (HT.out.on hb)
  rw [he] at cC
  have CC := Lib.hid cC
  have CS := Lib.hid (fun w1 (hb : Below w.heap.size w w1) => lsplit_0 s w1 m (by omega) (HT.out.on hb) (by rw [hm]) (by unfold splitE; rw [hm]; exact he))
  have c9 := fun w1 A2 c2 A3 c3 (h2 : Strs w1 w1.heap.size A2 (toBs m)) (h3 : Strs w1 w1.heap.size A3 (toBs m)) => rsame_l A2 A3 m m c2 c3 w1 h2 h3 (by omega) (by omega)
  simp only [decide_true] at c9
  have C9 := Lib.hid c9
  clear c9 he
  have CG := Lib.hid (fun w1 (hb : Below w.heap.size w w1) => lget_1 s w1 gr (by omega) (HT.out.on hb) hg hg0)
  have p1 : (gr == 0) = false := by rw [beq_eq_false_iff_ne]; exact hg0
  have p2 : (gr != 0) = true := by rw [bne_iff_ne]; exact hg0
  clear hg hg0
  clear hT hm hlen hz1 hz2 cR cC hml
  go_enter Tryd.func4, Tryd.ntmps4
  go_wp2_with fail
  refine (CS.out w (Below.refl _ _)).mono ?_
  rintro e w1 ⟨A1, k1, rfl, hs1, hb1⟩
  have S1 := Lib.hid hs1
  clear hs1
  go_wp2_with fail
  refine (CR.out w1).mono ?_
  rintro e w2 ⟨A2, k2, rfl, hs2, hb⟩
  have hb2 := hb1.trans (hb.mono hb1.size)
  have S1 := Lib.hid (S1.out.on hb)
  have S2 := Lib.hid hs2
  clear hs2
  clear hb hb1
  go_wp2_with fail
  refine (CC.out w2 A2 k2 hb2 S2.out).mono ?_
  rintro e w3 ⟨rfl, hb⟩
  have hb3 := hb2.trans (hb.mono hb2.size)
  have S1 := Lib.hid (S1.out.on hb)
  have S2 := Lib.hid (S2.out.on hb)
  clear hb hb2
  go_wp2_with fail
  refine (C9.out w3 A1 k1 A2 k2 S1.out S2.out).mono ?_
  rintro e w4 ⟨rfl, hb⟩
  have hb4 := hb3.trans (hb.mono hb3.size)
  have S1 := Lib.hid (S1.out.on hb)
  have S2 := Lib.hid (S2.out.on hb)
  clear hb hb3
  go_wp2_with fail
  refine (CG.out w4 hb4).mono ?_
  rintro e w5 ⟨A3, k3, rfl, hb⟩
  have hb5 := hb4.trans (hb.mono hb4.size)
  clear hb hb4
  go_wp2_with fail
  refine (awake3_any w5 (HT.out.on hb5)).mono ?_
  rintro e w6 ⟨rfl, hb⟩
  have hb6 := hb5.trans (hb.mono hb5.size)
  clear hb hb5
  go_wp2
  go_ret
  exact ⟨rfl, hb6⟩

set_option maxRecDepth 100000 in
theorem splits_20 (hs : s.size ≤ 1000) (hT : Tabs w) (m : List (List UInt8)) (er : Int) (hm : splitGo [] s.data.toList = (m, true)) (he : checkN (toBs m) = er) (h0 : er ≠ 0) (ls : List (List UInt8)) (hl : s.data.toList = listB ls) (hc : checkN (toBs ls) = 0) (hr : rList s.data.toList = (ls, 0, [])) : Calls Tryd.prog 4 #[.string s] w fun e w' => e = .returned (.bool true) ∧ Below w.heap.size w w' := by
  have HT := Lib.hid hT
  have hlen : s.data.toList.length ≤ 1000 := by simpa using hs
  obtain ⟨hz1, hz2⟩ := splitGo_sizes s.data.toList []
  rw [hm] at hz1 hz2
  have HZ : Hid (∀ x ∈ m, x.length ≤ 1000000) := fun x hx => by have := hz1 x hx; simp at this; omega
  have hml : m.length ≤ 1000 := by simp at hz2; omega
  have cR := fun w1 => rsplit_l s w1 (by omega)
  rw [hm] at cR
  have CR := Lib.hid cR
  have cC := fun w1 A2 c2 (hb : Below w.heap.size w w1) (h2 : Strs w1 w1.heap.size A2 (toBs m)) => rcheck_l A2 m c2 w1 h2 (by omega) HZ.out (HT.out.on hb)
  rw [he] at cC
  have CC := Lib.hid cC
  have CS := Lib.hid (fun w1 (hb : Below w.heap.size w w1) => lsplit_1 s w1 er (by omega) (HT.out.on hb) (by unfold splitE; rw [hm]; exact he) h0)
  have q1 : (er == 0) = false := by rw [beq_eq_false_iff_ne]; exact h0
  have q2 : (er != 0) = true := by rw [bne_iff_ne]; exact h0
  clear he h0
  have CG := Lib.hid (fun w1 (hb : Below w.heap.size w w1) => lget_0 s w1 ls (by omega) (HT.out.on hb) hr (by unfold getE; rw [hr]; simpa using hc))
  have hl1 : ∀ x ∈ ls, x.length ≤ 1000000 := fun x hx => by
    have := listB_mem hx
    rw [← hl] at this
    omega
  have hl2 : ls.length ≤ 1000 := by
    have := listB_len ls
    rw [← hl] at this
    omega
  have hsb : toB (listB ls) = s := by rw [← hl, toB_of]
  have cL := fun w1 A2 c2 (h2 : Strs w1 w1.heap.size A2 (toBs ls)) => rlist_l A2 ls c2 w1 h2 (by omega) (by rw [← hl]; omega)
  rw [hsb] at cL
  have CL := Lib.hid cL
  have cK := fun w1 A2 c2 (hb : Below w.heap.size w w1) (h2 : Strs w1 w1.heap.size A2 (toBs ls)) => rcheck_l A2 ls c2 w1 h2 (by omega) hl1 (HT.out.on hb)
  rw [hc] at cK
  have CK := Lib.hid cK
  clear cL cK hl1 hl2 hsb hl hc hr
  clear hT hm hlen hz1 hz2 cR cC hml
  go_enter Tryd.func4, Tryd.ntmps4
  go_wp2_with fail
  refine (CS.out w (Below.refl _ _)).mono ?_
  rintro e w1 ⟨A1, k1, rfl, hb1⟩
  go_wp2_with fail
  refine (CR.out w1).mono ?_
  rintro e w2 ⟨A2, k2, rfl, hs2, hb⟩
  have hb2 := hb1.trans (hb.mono hb1.size)
  have S2 := Lib.hid hs2
  clear hs2
  clear hb hb1
  go_wp2_with fail
  refine (CC.out w2 A2 k2 hb2 S2.out).mono ?_
  rintro e w3 ⟨rfl, hb⟩
  have hb3 := hb2.trans (hb.mono hb2.size)
  have S2 := Lib.hid (S2.out.on hb)
  clear hb hb2
  go_wp2_with fail
  refine (CG.out w3 hb3).mono ?_
  rintro e w4 ⟨A3, k3, rfl, hs3, hb⟩
  have hb4 := hb3.trans (hb.mono hb3.size)
  have S3 := Lib.hid hs3
  clear hs3
  clear hb hb3
  go_wp2_with fail
  refine (awake3_any w4 (HT.out.on hb4)).mono ?_
  rintro e w5 ⟨rfl, hb⟩
  have hb5 := hb4.trans (hb.mono hb4.size)
  have S3 := Lib.hid (S3.out.on hb)
  clear hb hb4
  go_wp2_with fail
  refine (CL.out w5 A3 k3 S3.out).mono ?_
  rintro e w6 ⟨rfl, hb⟩
  have hb6 := hb5.trans (hb.mono hb5.size)
  have S3 := Lib.hid (S3.out.on hb)
  clear hb hb5
  go_wp2_with fail
  refine (CK.out w6 A3 k3 hb6 S3.out).mono ?_
  rintro e w7 ⟨rfl, hb⟩
  have hb7 := hb6.trans (hb.mono hb6.size)
  have S3 := Lib.hid (S3.out.on hb)
  clear hb hb6
  go_wp2
  go_ret
  exact ⟨rfl, hb7⟩

set_option maxRecDepth 100000 in
theorem splits_21 (hs : s.size ≤ 1000) (hT : Tabs w) (m : List (List UInt8)) (er : Int) (hm : splitGo [] s.data.toList = (m, true)) (he : checkN (toBs m) = er) (h0 : er ≠ 0) (gr : Int) (hg : getE s.data.toList = gr) (hg0 : gr ≠ 0) : Calls Tryd.prog 4 #[.string s] w fun e w' => e = .returned (.bool true) ∧ Below w.heap.size w w' := by
  have HT := Lib.hid hT
  have hlen : s.data.toList.length ≤ 1000 := by simpa using hs
  obtain ⟨hz1, hz2⟩ := splitGo_sizes s.data.toList []
  rw [hm] at hz1 hz2
  have HZ : Hid (∀ x ∈ m, x.length ≤ 1000000) := fun x hx => by have := hz1 x hx; simp at this; omega
  have hml : m.length ≤ 1000 := by simp at hz2; omega
  have cR := fun w1 => rsplit_l s w1 (by omega)
  rw [hm] at cR
  have CR := Lib.hid cR
  have cC := fun w1 A2 c2 (hb : Below w.heap.size w w1) (h2 : Strs w1 w1.heap.size A2 (toBs m)) => rcheck_l A2 m c2 w1 h2 (by omega) HZ.out (HT.out.on hb)
  rw [he] at cC
  have CC := Lib.hid cC
  have CS := Lib.hid (fun w1 (hb : Below w.heap.size w w1) => lsplit_1 s w1 er (by omega) (HT.out.on hb) (by unfold splitE; rw [hm]; exact he) h0)
  have q1 : (er == 0) = false := by rw [beq_eq_false_iff_ne]; exact h0
  have q2 : (er != 0) = true := by rw [bne_iff_ne]; exact h0
  clear he h0
  have CG := Lib.hid (fun w1 (hb : Below w.heap.size w w1) => lget_1 s w1 gr (by omega) (HT.out.on hb) hg hg0)
  have p1 : (gr == 0) = false := by rw [beq_eq_false_iff_ne]; exact hg0
  have p2 : (gr != 0) = true := by rw [bne_iff_ne]; exact hg0
  clear hg hg0
  clear hT hm hlen hz1 hz2 cR cC hml
  go_enter Tryd.func4, Tryd.ntmps4
  go_wp2_with fail
  refine (CS.out w (Below.refl _ _)).mono ?_
  rintro e w1 ⟨A1, k1, rfl, hb1⟩
  go_wp2_with fail
  refine (CR.out w1).mono ?_
  rintro e w2 ⟨A2, k2, rfl, hs2, hb⟩
  have hb2 := hb1.trans (hb.mono hb1.size)
  have S2 := Lib.hid hs2
  clear hs2
  clear hb hb1
  go_wp2_with fail
  refine (CC.out w2 A2 k2 hb2 S2.out).mono ?_
  rintro e w3 ⟨rfl, hb⟩
  have hb3 := hb2.trans (hb.mono hb2.size)
  have S2 := Lib.hid (S2.out.on hb)
  clear hb hb2
  go_wp2_with fail
  refine (CG.out w3 hb3).mono ?_
  rintro e w4 ⟨A3, k3, rfl, hb⟩
  have hb4 := hb3.trans (hb.mono hb3.size)
  clear hb hb3
  go_wp2_with fail
  refine (awake3_any w4 (HT.out.on hb4)).mono ?_
  rintro e w5 ⟨rfl, hb⟩
  have hb5 := hb4.trans (hb.mono hb4.size)
  clear hb hb4
  go_wp2
  go_ret
  exact ⟨rfl, hb5⟩

set_option maxRecDepth 100000 in
theorem splits_30 (hs : s.size ≤ 1000) (hT : Tabs w) (m : List (List UInt8)) (hm : splitGo [] s.data.toList = (m, false)) (ls : List (List UInt8)) (hl : s.data.toList = listB ls) (hc : checkN (toBs ls) = 0) (hr : rList s.data.toList = (ls, 0, [])) : Calls Tryd.prog 4 #[.string s] w fun e w' => e = .returned (.bool true) ∧ Below w.heap.size w w' := by
  have HT := Lib.hid hT
  have hlen : s.data.toList.length ≤ 1000 := by simpa using hs
  obtain ⟨hz1, hz2⟩ := splitGo_sizes s.data.toList []
  rw [hm] at hz1 hz2
  have HZ : Hid (∀ x ∈ m, x.length ≤ 1000000) := fun x hx => by have := hz1 x hx; simp at this; omega
  have hml : m.length ≤ 1000 := by simp at hz2; omega
  have cR := fun w1 => rsplit_l s w1 (by omega)
  rw [hm] at cR
  have CR := Lib.hid cR
  have cC := fun w1 A2 c2 (hb : Below w.heap.size w w1) (h2 : Strs w1 w1.heap.size A2 (toBs m)) => rcheck_l A2 m c2 w1 h2 (by omega) HZ.out (HT.out.on hb)
  generalize checkN (toBs m) = er at cC
  have CC := Lib.hid cC
  have CS := Lib.hid (fun w1 (hb : Below w.heap.size w w1) => lsplit_1 s w1 6 (by omega) (HT.out.on hb) (by unfold splitE; rw [hm]; rfl) (by decide))
  have CG := Lib.hid (fun w1 (hb : Below w.heap.size w w1) => lget_0 s w1 ls (by omega) (HT.out.on hb) hr (by unfold getE; rw [hr]; simpa using hc))
  have hl1 : ∀ x ∈ ls, x.length ≤ 1000000 := fun x hx => by
    have := listB_mem hx
    rw [← hl] at this
    omega
  have hl2 : ls.length ≤ 1000 := by
    have := listB_len ls
    rw [← hl] at this
    omega
  have hsb : toB (listB ls) = s := by rw [← hl, toB_of]
  have cL := fun w1 A2 c2 (h2 : Strs w1 w1.heap.size A2 (toBs ls)) => rlist_l A2 ls c2 w1 h2 (by omega) (by rw [← hl]; omega)
  rw [hsb] at cL
  have CL := Lib.hid cL
  have cK := fun w1 A2 c2 (hb : Below w.heap.size w w1) (h2 : Strs w1 w1.heap.size A2 (toBs ls)) => rcheck_l A2 ls c2 w1 h2 (by omega) hl1 (HT.out.on hb)
  rw [hc] at cK
  have CK := Lib.hid cK
  clear cL cK hl1 hl2 hsb hl hc hr
  clear hT hm hlen hz1 hz2 cR cC hml
  go_enter Tryd.func4, Tryd.ntmps4
  go_wp2_with fail
  refine (CS.out w (Below.refl _ _)).mono ?_
  rintro e w1 ⟨A1, k1, rfl, hb1⟩
  go_wp2_with fail
  refine (CR.out w1).mono ?_
  rintro e w2 ⟨A2, k2, rfl, hs2, hb⟩
  have hb2 := hb1.trans (hb.mono hb1.size)
  have S2 := Lib.hid hs2
  clear hs2
  clear hb hb1
  go_wp2_with fail
  refine (CC.out w2 A2 k2 hb2 S2.out).mono ?_
  rintro e w3 ⟨rfl, hb⟩
  have hb3 := hb2.trans (hb.mono hb2.size)
  have S2 := Lib.hid (S2.out.on hb)
  clear hb hb2
  go_wp2_with fail
  refine (CG.out w3 hb3).mono ?_
  rintro e w4 ⟨A3, k3, rfl, hs3, hb⟩
  have hb4 := hb3.trans (hb.mono hb3.size)
  have S3 := Lib.hid hs3
  clear hs3
  clear hb hb3
  go_wp2_with fail
  refine (awake3_any w4 (HT.out.on hb4)).mono ?_
  rintro e w5 ⟨rfl, hb⟩
  have hb5 := hb4.trans (hb.mono hb4.size)
  have S3 := Lib.hid (S3.out.on hb)
  clear hb hb4
  go_wp2_with fail
  refine (CL.out w5 A3 k3 S3.out).mono ?_
  rintro e w6 ⟨rfl, hb⟩
  have hb6 := hb5.trans (hb.mono hb5.size)
  have S3 := Lib.hid (S3.out.on hb)
  clear hb hb5
  go_wp2_with fail
  refine (CK.out w6 A3 k3 hb6 S3.out).mono ?_
  rintro e w7 ⟨rfl, hb⟩
  have hb7 := hb6.trans (hb.mono hb6.size)
  have S3 := Lib.hid (S3.out.on hb)
  clear hb hb6
  go_wp2
  go_ret
  exact ⟨rfl, hb7⟩

set_option maxRecDepth 100000 in
theorem splits_31 (hs : s.size ≤ 1000) (hT : Tabs w) (m : List (List UInt8)) (hm : splitGo [] s.data.toList = (m, false)) (gr : Int) (hg : getE s.data.toList = gr) (hg0 : gr ≠ 0) : Calls Tryd.prog 4 #[.string s] w fun e w' => e = .returned (.bool true) ∧ Below w.heap.size w w' := by
  have HT := Lib.hid hT
  have hlen : s.data.toList.length ≤ 1000 := by simpa using hs
  obtain ⟨hz1, hz2⟩ := splitGo_sizes s.data.toList []
  rw [hm] at hz1 hz2
  have HZ : Hid (∀ x ∈ m, x.length ≤ 1000000) := fun x hx => by have := hz1 x hx; simp at this; omega
  have hml : m.length ≤ 1000 := by simp at hz2; omega
  have cR := fun w1 => rsplit_l s w1 (by omega)
  rw [hm] at cR
  have CR := Lib.hid cR
  have cC := fun w1 A2 c2 (hb : Below w.heap.size w w1) (h2 : Strs w1 w1.heap.size A2 (toBs m)) => rcheck_l A2 m c2 w1 h2 (by omega) HZ.out (HT.out.on hb)
  generalize checkN (toBs m) = er at cC
  have CC := Lib.hid cC
  have CS := Lib.hid (fun w1 (hb : Below w.heap.size w w1) => lsplit_1 s w1 6 (by omega) (HT.out.on hb) (by unfold splitE; rw [hm]; rfl) (by decide))
  have CG := Lib.hid (fun w1 (hb : Below w.heap.size w w1) => lget_1 s w1 gr (by omega) (HT.out.on hb) hg hg0)
  have p1 : (gr == 0) = false := by rw [beq_eq_false_iff_ne]; exact hg0
  have p2 : (gr != 0) = true := by rw [bne_iff_ne]; exact hg0
  clear hg hg0
  clear hT hm hlen hz1 hz2 cR cC hml
  go_enter Tryd.func4, Tryd.ntmps4
  go_wp2_with fail
  refine (CS.out w (Below.refl _ _)).mono ?_
  rintro e w1 ⟨A1, k1, rfl, hb1⟩
  go_wp2_with fail
  refine (CR.out w1).mono ?_
  rintro e w2 ⟨A2, k2, rfl, hs2, hb⟩
  have hb2 := hb1.trans (hb.mono hb1.size)
  have S2 := Lib.hid hs2
  clear hs2
  clear hb hb1
  go_wp2_with fail
  refine (CC.out w2 A2 k2 hb2 S2.out).mono ?_
  rintro e w3 ⟨rfl, hb⟩
  have hb3 := hb2.trans (hb.mono hb2.size)
  have S2 := Lib.hid (S2.out.on hb)
  clear hb hb2
  go_wp2_with fail
  refine (CG.out w3 hb3).mono ?_
  rintro e w4 ⟨A3, k3, rfl, hb⟩
  have hb4 := hb3.trans (hb.mono hb3.size)
  clear hb hb3
  go_wp2_with fail
  refine (awake3_any w4 (HT.out.on hb4)).mono ?_
  rintro e w5 ⟨rfl, hb⟩
  have hb5 := hb4.trans (hb.mono hb4.size)
  clear hb hb4
  go_wp2
  go_ret
  exact ⟨rfl, hb5⟩

theorem splits_any (hs : s.size ≤ 9223372036854775807) (hT : Tabs w) : Calls Tryd.prog 4 #[.string s] w fun e w' => e = .returned (.bool true) ∧ Below w.heap.size w w' := by
  by_cases hlong : 1000 < s.size
  · exact splits_long s w hlong hT
  · have hs : s.size ≤ 1000 := by omega
    rcases hm : splitGo [] s.data.toList with ⟨m, ends⟩
    by_cases hg : getE s.data.toList = 0
    · obtain ⟨ls, h1, h2, h3⟩ := getE_yes hg
      cases ends with
      | false => exact splits_30 s w hs hT m hm ls h1 h2 h3
      | true =>
        by_cases h0 : checkN (toBs m) = 0
        · exact splits_10 s w hs hT m hm h0 ls h1 h2 h3
        · exact splits_20 s w hs hT m _ hm rfl h0 ls h1 h2 h3
    · cases ends with
      | false => exact splits_31 s w hs hT m hm _ rfl hg
      | true =>
        by_cases h0 : checkN (toBs m) = 0
        · exact splits_11 s w hs hT m hm h0 _ rfl hg
        · exact splits_21 s w hs hT m _ hm rfl h0 _ rfl hg
end
end Go.Proofs.YtokkkjgdfnkjoaaDoor
