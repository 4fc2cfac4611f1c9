
/- Package path's Move. -/
import Derived.Test.YthonklioandplaaDoorPathIn
namespace Go.Proofs.YthonklioandplaaDoor
open Go.RowKit
set_option linter.unusedVariables false

theorem trim_self (p : List UInt8) : Lib.trimPrefix p p = [] := by
  unfold Lib.trimPrefix Lib.hasPrefix
  rw [if_pos (List.isPrefixOf_iff_prefix.2 (List.prefix_refl p)), List.drop_length]
theorem trim_in (f r : List UInt8) : Lib.trimPrefix (f ++ 47 :: r) f = 47 :: r := by
  unfold Lib.trimPrefix Lib.hasPrefix
  rw [if_pos (List.isPrefixOf_iff_prefix.2 (List.prefix_append _ _)), List.drop_left]
theorem within_is {p f : List UInt8} (hf : f ≠ []) (h : withinP nameP p f = true) : ∃ r, p = f ++ 47 :: r ∧ names nameP p ≠ [] := by
  rw [within_dir hf, Bool.and_eq_true, decide_eq_true_eq] at h
  obtain ⟨r, e⟩ := pre_of_prefix h.1
  exact ⟨r, e, h.2⟩
theorem names_nil : names nameP [] = [] := by
  have := nameP_empty
  simp [names, pieces, this]
theorem toB_size (l : List UInt8) : (toB l).size = l.length := by simp [toB, ByteArray.size]
theorem string_ne {s t : ByteArray} (h : s ≠ t) : (s.toList == t.toList) = false := by
  rw [beq_eq_false_iff_ne]
  intro e
  rw [toList_eq, toList_eq] at e
  exact h (bytes_inj e)

set_option maxHeartbeats 4000000 in
set_option maxRecDepth 100000 in
theorem move_tail (s t u x : ByteArray) (hm : toB (Lib.trimPrefix s.data.toList t.data.toList) = x) (hms : (u ++ x).size ≤ 1000000) (ht : t.size ≤ 100000) (hs : s.size ≤ 100000) (hu : u.size ≤ 100000) (hz : x.size ≤ 100000) (w : World) (hr : pnames t ≠ []) (hw : s = t ∨ (s ≠ t ∧ withinP nameP s.data.toList t.data.toList = true)) :
    Calls Tryd.prog 20 #[.string s, .string t, .string u] w fun e w' => e = .returned (.string (if pnames (u ++ x) ≠ [] then u ++ x else s)) ∧ Below w.heap.size w w' := by
  have C1 := fun w => pright_any t w (by omega)
  simp only [decide_eq_true hr] at C1
  have CR := Lib.hid C1
  have C2 := fun w => trimprefix_any s t w
  rw [hm] at C2
  have CT := Lib.hid C2
  have C3 := fun w => pright_any (u ++ x) w hms
  clear C1 C2 hr hm hms
  by_cases hn : pnames (u ++ x) ≠ []
  · rw [if_pos hn]
    simp only [decide_eq_true hn] at C3
    have CM := Lib.hid C3
    clear C3 hn
    rcases hw with rfl | ⟨hne, hw⟩
    · skip
      have hb : (s.toList == s.toList) = true := by simp
      go_enter Tryd.func20, Tryd.ntmps20
      go_wp2_with fail
      refine (CR.out _).mono ?_
      rintro e w1 ⟨rfl, hb1⟩
      have HB1 := Lib.hid (hb1)
      clear hb1
      go_wp2_with fail
      refine (CT.out _).mono ?_
      rintro e w3 ⟨rfl, rfl⟩
      go_wp2_with fail
      refine (CM.out _).mono ?_
      rintro e w4 ⟨rfl, hb4⟩
      have HB4 := Lib.hid (HB1.out.trans (hb4.mono HB1.out.size))
      clear hb4 HB1
      go_wp2
      go_ret
      exact ⟨rfl, HB4.out⟩
    · skip
      have hb := string_ne hne
      have CW := Lib.hid (fun w => pwithin_any s t w (by omega) (by omega))
      rw [hw] at CW
      clear hne hw
      go_enter Tryd.func20, Tryd.ntmps20
      go_wp2_with fail
      refine (CR.out _).mono ?_
      rintro e w1 ⟨rfl, hb1⟩
      have HB1 := Lib.hid (hb1)
      clear hb1
      go_wp2_with fail
      refine (CW.out _).mono ?_
      rintro e w2 ⟨rfl, hb2⟩
      have HB2 := Lib.hid (HB1.out.trans (hb2.mono HB1.out.size))
      clear hb2 HB1
      go_wp2_with fail
      refine (CT.out _).mono ?_
      rintro e w3 ⟨rfl, rfl⟩
      go_wp2_with fail
      refine (CM.out _).mono ?_
      rintro e w4 ⟨rfl, hb4⟩
      have HB4 := Lib.hid (HB2.out.trans (hb4.mono HB2.out.size))
      clear hb4 HB2
      go_wp2
      go_ret
      exact ⟨rfl, HB4.out⟩
  · rw [if_neg hn]
    simp only [decide_eq_false hn] at C3
    have CM := Lib.hid C3
    clear C3 hn
    rcases hw with rfl | ⟨hne, hw⟩
    · skip
      have hb : (s.toList == s.toList) = true := by simp
      go_enter Tryd.func20, Tryd.ntmps20
      go_wp2_with fail
      refine (CR.out _).mono ?_
      rintro e w1 ⟨rfl, hb1⟩
      have HB1 := Lib.hid (hb1)
      clear hb1
      go_wp2_with fail
      refine (CT.out _).mono ?_
      rintro e w3 ⟨rfl, rfl⟩
      go_wp2_with fail
      refine (CM.out _).mono ?_
      rintro e w4 ⟨rfl, hb4⟩
      have HB4 := Lib.hid (HB1.out.trans (hb4.mono HB1.out.size))
      clear hb4 HB1
      go_wp2
      go_ret
      exact ⟨rfl, HB4.out⟩
    · skip
      have hb := string_ne hne
      have CW := Lib.hid (fun w => pwithin_any s t w (by omega) (by omega))
      rw [hw] at CW
      clear hne hw
      go_enter Tryd.func20, Tryd.ntmps20
      go_wp2_with fail
      refine (CR.out _).mono ?_
      rintro e w1 ⟨rfl, hb1⟩
      have HB1 := Lib.hid (hb1)
      clear hb1
      go_wp2_with fail
      refine (CW.out _).mono ?_
      rintro e w2 ⟨rfl, hb2⟩
      have HB2 := Lib.hid (HB1.out.trans (hb2.mono HB1.out.size))
      clear hb2 HB1
      go_wp2_with fail
      refine (CT.out _).mono ?_
      rintro e w3 ⟨rfl, rfl⟩
      go_wp2_with fail
      refine (CM.out _).mono ?_
      rintro e w4 ⟨rfl, hb4⟩
      have HB4 := Lib.hid (HB2.out.trans (hb4.mono HB2.out.size))
      clear hb4 HB2
      go_wp2
      go_ret
      exact ⟨rfl, HB4.out⟩

set_option maxHeartbeats 4000000 in
set_option maxRecDepth 100000 in
theorem move_stays (s t u : ByteArray) (ht : t.size ≤ 100000) (hs : s.size ≤ 100000) (w : World) (h : pnames t = [] ∨ (pnames t ≠ [] ∧ s ≠ t ∧ withinP nameP s.data.toList t.data.toList = false)) :
    Calls Tryd.prog 20 #[.string s, .string t, .string u] w fun e w' => e = .returned (.string s) ∧ Below w.heap.size w w' := by
  have C1 := fun w => pright_any t w (by omega)
  rcases h with hr | ⟨hr, hne, hw⟩
  · simp only [decide_eq_false (by simpa using hr : ¬ pnames t ≠ [])] at C1
    have CR := Lib.hid C1
    clear C1 hr
    skip
    go_enter Tryd.func20, Tryd.ntmps20
    go_wp2_with fail
    refine (CR.out _).mono ?_
    rintro e w1 ⟨rfl, hb1⟩
    have HB1 := Lib.hid (hb1)
    clear hb1
    go_wp2
    go_ret
    exact ⟨rfl, HB1.out⟩
  · simp only [decide_eq_true hr] at C1
    have CR := Lib.hid C1
    have hb := string_ne hne
    have CW := Lib.hid (fun w => pwithin_any s t w (by omega) (by omega))
    rw [hw] at CW
    clear C1 hr hne hw
    go_enter Tryd.func20, Tryd.ntmps20
    go_wp2_with fail
    refine (CR.out _).mono ?_
    rintro e w1 ⟨rfl, hb1⟩
    have HB1 := Lib.hid (hb1)
    clear hb1
    go_wp2_with fail
    refine (CW.out _).mono ?_
    rintro e w2 ⟨rfl, hb2⟩
    have HB2 := Lib.hid (HB1.out.trans (hb2.mono HB1.out.size))
    clear hb2 HB1
    go_wp2
    go_ret
    exact ⟨rfl, HB2.out⟩

theorem size_app (u x : ByteArray) : (u ++ x).size = u.size + x.size := by simp
theorem move_c : MoveC := by
  intro s t u w hs ht hu
  by_cases hr : pnames t = []
  · rw [move_no u.data.toList (.inl hr) (.inr hr), toB_of]
    exact move_stays s t u ht hs w (.inl hr)
  · have ht0 : t.data.toList ≠ [] := by
      intro e
      unfold pnames at hr
      rw [e] at hr
      exact hr names_nil
    by_cases he : s = t
    · subst he
      rw [move_self u.data.toList hr]
      have h := move_tail s s u (toB []) (by rw [trim_self]) (by rw [size_app, toB_size, List.length_nil]; omega) hs hs hu (by rw [toB_size, List.length_nil]; omega) w hr (.inl rfl)
      rw [show u ++ toB [] = u by apply ByteArray.ext; simp [toB, ByteArray.data_append]] at h
      refine h.mono ?_
      rintro e w' ⟨rfl, hb⟩
      refine ⟨?_, hb⟩
      unfold pnames
      by_cases k : names nameP u.data.toList = []
      · rw [if_neg (by simp [k]), if_neg (by simp [k]), toB_of]
      · rw [if_pos k, if_pos k, toB_of]
    · cases hw : withinP nameP s.data.toList t.data.toList with
      | false =>
        rw [move_no u.data.toList (.inr ⟨fun e => he (bytes_inj e), hw⟩) (.inl ht0), toB_of]
        exact move_stays s t u ht hs w (.inr ⟨hr, he, hw⟩)
      | true =>
        obtain ⟨r, e, hp⟩ := within_is ht0 hw
        have hl : s.data.toList.length = t.data.toList.length + (r.length + 1) := by rw [e]; simp
        have hsz : s.data.toList.length = s.size := by simp
        have hrl : r.length + 1 ≤ 100000 := by omega
        have h := move_tail s t u (toB (47 :: r)) (by rw [e, trim_in]) (by rw [size_app, toB_size, List.length_cons]; omega) ht hs hu (by rw [toB_size, List.length_cons]; omega) w hr (.inr ⟨he, hw⟩)
        refine h.mono ?_
        rintro e' w' ⟨rfl, hb⟩
        refine ⟨?_, hb⟩
        have e3 : (u ++ toB (47 :: r)).data.toList = u.data.toList ++ 47 :: r := by simp [toB, ByteArray.data_append]
        have hp2 := hp
        rw [e] at hp2
        have hmv := move_in (nm := nameP) (f := t.data.toList) (r := r) u.data.toList hp2
        rw [← e] at hmv
        rw [hmv]
        unfold pnames
        rw [e3]
        by_cases k : names nameP (u.data.toList ++ 47 :: r) = []
        · rw [if_neg (by simp [k]), if_neg (by simp [k]), toB_of]
        · rw [if_pos k, if_pos k, ← e3, toB_of]
end Go.Proofs.YthonklioandplaaDoor
