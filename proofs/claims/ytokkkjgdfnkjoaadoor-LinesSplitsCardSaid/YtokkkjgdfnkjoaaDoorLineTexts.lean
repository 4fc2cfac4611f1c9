
/- The statement LinesTexts: its walk. -/
import Derived.Test.YtokkkjgdfnkjoaaDoorLineLaw
namespace Go.Proofs.YtokkkjgdfnkjoaaDoor
open Go.RowKit
set_option linter.unusedVariables false

theorem light3_facts {la : List (List UInt8)} (h : light3B (toBs la) = true) : la.length ≤ 60 ∧ ∀ x ∈ la, x.length ≤ 300 := by
  unfold light3B at h
  rw [Bool.and_eq_true, List.all_eq_true] at h
  refine ⟨by simpa [toBs_len] using h.2, fun x hx => ?_⟩
  have := h.1 (toB x) (List.mem_map.2 ⟨x, hx, rfl⟩)
  simpa [toB_size] using this
theorem textL_bound : ∀ {la : List (List UInt8)}, (∀ x ∈ la, x.length ≤ 300) → (textL la).length ≤ la.length * 301
  | [], _ => by simp [textL]
  | l :: la, h => by
    have ih := textL_bound (la := la) fun x hx => h x (List.mem_cons_of_mem _ hx)
    have h1 := h l (by simp)
    have e : textL (l :: la) = l ++ [10] ++ textL la := rfl
    rw [e]
    simp only [List.length_append, List.length_cons, List.length_nil]
    omega
theorem listB_bound {la : List (List UInt8)} (h : ∀ x ∈ la, x.length ≤ 300) : (listB la).length ≤ la.length * 310 + 10 := by
  have h0 := numB_len la.length
  have : ∀ (ls : List (List UInt8)), (∀ x ∈ ls, x.length ≤ 300) → (textsB ls).length ≤ ls.length * 310 := by
    intro ls
    induction ls with
    | nil => intro _; simp [textsB]
    | cons l ls ih =>
      intro h
      have e : textsB (l :: ls) = textB l ++ textsB ls := rfl
      have e2 : (textB l).length = (numB l.length).length + l.length := by simp [textB]
      have h1 := ih fun x hx => h x (List.mem_cons_of_mem _ hx)
      have h2 := h l (by simp)
      have h3 := numB_len l.length
      rw [e, List.length_append]
      simp only [List.length_cons]
      omega
  have := this la h
  simp [listB]
  omega
theorem checkN_lines {la : List (List UInt8)} (h : checkN (toBs la) = 0) : ∀ x ∈ la, (10 : UInt8) ∉ x := by
  intro x hx
  have hb : (toBs la).all lineB = true := by
    unfold checkN at h
    split at h
    · cases h
    · split at h
      · assumption
      · cases h
  have := line_no10 (List.all_eq_true.1 hb (toB x) (List.mem_map.2 ⟨x, hx, rfl⟩))
  rwa [of_toB] at this
theorem split_back {la : List (List UInt8)} (h : checkN (toBs la) = 0) : (splitGo [] (toB (textL la)).data.toList).1 = la ∧ splitE (toB (textL la)) = 0 := by
  have e := split_text la (checkN_lines h)
  unfold splitE
  rw [of_toB, e]
  exact ⟨rfl, h⟩
theorem get_back {la : List (List UInt8)} (h : checkN (toBs la) = 0) (hn : la.length ≤ 1000000) (hz : ∀ x ∈ la, x.length ≤ 1000000) : (rList (toB (listB la)).data.toList).1 = la ∧ getE (toB (listB la)).data.toList = 0 := by
  have e := rList_list la [] (by omega) (fun s hs => by have := hz s hs; omega)
  rw [List.append_nil] at e
  unfold getE
  rw [of_toB, e]
  exact ⟨rfl, by simpa using h⟩

section
variable (A : Option Addr) (la : List (List UInt8)) (cap : Nat) (w : World)
/-- The calls of the good way. -/
theorem split_la (s : List UInt8) (w : World) (hs : s.length ≤ 1000000) (hT : Tabs w) (h : (splitGo [] (toB s).data.toList).1 = la ∧ splitE (toB s) = 0) :
    Calls Tryd.prog 13 #[.string (toB s)] w fun e w' => ∃ A c, e = .returned (.tuple #[.slice A la.length c, .int .i64 0]) ∧ Strs w' w'.heap.size A (toBs la) ∧ Below w.heap.size w w' := by
  refine (lsplit_any (toB s) w (by rw [toB_size]; exact hs) hT).mono ?_
  rintro e w' ⟨A, c, l, rfl, ⟨hl, _⟩, hA, hs, hb⟩
  obtain rfl := (hl h.2).trans h.1
  rw [h.2]
  exact ⟨A, c, rfl, hs, hb⟩
theorem get_la (s : List UInt8) (w : World) (hs : s.length ≤ 1000000) (hT : Tabs w) (h : (rList (toB s).data.toList).1 = la ∧ getE (toB s).data.toList = 0) :
    Calls Tryd.prog 14 #[.string (toB s)] w fun e w' => ∃ A c, e = .returned (.tuple #[.slice A la.length c, .int .i64 0]) ∧ Strs w' w'.heap.size A (toBs la) ∧ Below w.heap.size w w' := by
  refine (lget_any (toB s) w (by rw [toB_size]; exact hs) hT).mono ?_
  rintro e w' ⟨A, c, l, rfl, ⟨hl, _⟩, hA, hs, hb⟩
  obtain rfl := (hl h.2).trans h.1
  rw [h.2]
  exact ⟨A, c, rfl, hs, hb⟩

set_option maxRecDepth 100000 in
theorem texts_dark (hs : Strs w w.heap.size A (toBs la)) (hn : la.length ≤ 9223372036854775807) (hT : Tabs w) (hd : light3B (toBs la) = false) :
    Calls Tryd.prog 3 #[.slice A la.length cap] w fun e w' => e = .returned (.bool true) ∧ Below w.heap.size w w' := by
  have hli := light_l A la cap w hs hn
  rw [hd] at hli
  have HL := Lib.hid hli
  have HT := Lib.hid hT
  clear hli hd hs hT
  go_enter Tryd.func3, Tryd.ntmps3
  go_wp2_with fail
  refine HL.out.mono ?_
  rintro e w1 ⟨rfl, rfl⟩
  go_wp2_with fail
  refine (awake3_any w HT.out).mono ?_
  rintro e w2 ⟨rfl, hb⟩
  go_wp2
  go_ret
  exact ⟨rfl, hb⟩

set_option maxRecDepth 100000 in
theorem texts_bad (hs : Strs w w.heap.size A (toBs la)) (hn : la.length ≤ 60) (hz : ∀ x ∈ la, x.length ≤ 300) (hT : Tabs w) (hd : light3B (toBs la) = true) (h0 : checkN (toBs la) ≠ 0) :
    Calls Tryd.prog 3 #[.slice A la.length cap] w fun e w' => e = .returned (.bool true) ∧ Below w.heap.size w w' := by
  have hli := light_l A la cap w hs (by omega)
  rw [hd] at hli
  have HL := Lib.hid hli
  have HT := Lib.hid hT
  have HS := Lib.hid hs
  have HZ : Hid (∀ x ∈ la, x.length ≤ 1000000) := fun x hx => by have := hz x hx; omega
  have htl := textL_bound hz
  have hne : (checkN (toBs la) != 0) = true := by rw [bne_iff_ne]; exact h0
  have H0 := Lib.hid h0
  clear hli hd hs hT hz h0
  have c1 := fun w1 (hb : Below w.heap.size w w1) => lcheck_l A la cap w1 (HS.out.on hb) (by omega) HZ.out (HT.out.on hb)
  have c2 := fun w1 (hb : Below w.heap.size w w1) => lput_l1 A la cap w1 (HS.out.on hb) (by omega) HZ.out (HT.out.on hb) H0.out
  have c3 := fun w1 (hb : Below w.heap.size w w1) => rcheck_l A la cap w1 (HS.out.on hb) (by omega) HZ.out (HT.out.on hb)
  have c4 := fun w1 (hb : Below w.heap.size w w1) => ltext_l A la cap w1 (HS.out.on hb) (by omega) (by omega)
  have c5 := fun w1 (hb : Below w.heap.size w w1) => rtext_l A la cap w1 (HS.out.on hb) (by omega) (by omega)
  have C1 := Lib.hid c1
  have C2 := Lib.hid c2
  have C3 := Lib.hid c3
  have C4 := Lib.hid c4
  have C5 := Lib.hid c5
  clear c1 c2 c3 c4 c5 htl
  generalize checkN (toBs la) = er at *
  generalize toB (textL la) = tx at *
  go_enter Tryd.func3, Tryd.ntmps3
  go_wp2_with fail
  refine HL.out.mono ?_
  rintro e w1 ⟨rfl, rfl⟩
  go_wp2_with fail
  refine (C1.out w (Below.refl _ _)).mono ?_
  rintro e w1 ⟨rfl, hb1⟩
  go_wp2_with fail
  refine (C2.out w1 hb1).mono ?_
  rintro e w2 ⟨rfl, hb⟩
  have hb2 := hb1.trans (hb.mono hb1.size)
  clear hb hb1
  go_wp2_with fail
  refine (C3.out w2 hb2).mono ?_
  rintro e w3 ⟨rfl, hb⟩
  have hb3 := hb2.trans (hb.mono hb2.size)
  clear hb hb2
  go_wp2_with fail
  refine (C4.out w3 hb3).mono ?_
  rintro e w4 ⟨rfl, hb⟩
  have hb4 := hb3.trans (hb.mono hb3.size)
  clear hb hb3
  go_wp2_with fail
  refine (C5.out w4 hb4).mono ?_
  rintro e w5 ⟨rfl, hb⟩
  have hb5 := hb4.trans (hb.mono hb4.size)
  clear hb hb4
  go_wp2_with fail
  refine (awake3_any w5 (HT.out.on hb5)).mono ?_
  rintro e w6 ⟨rfl, hb⟩
  have hb6 := hb5.trans (hb.mono hb5.size)
  clear hb hb5
  go_wp2
  go_ret
  exact ⟨rfl, hb6⟩

set_option maxRecDepth 100000 in
theorem texts_good (hs : Strs w w.heap.size A (toBs la)) (hn : la.length ≤ 60) (hz : ∀ x ∈ la, x.length ≤ 300) (hT : Tabs w) (hd : light3B (toBs la) = true) (h0 : checkN (toBs la) = 0) :
    Calls Tryd.prog 3 #[.slice A la.length cap] w fun e w' => e = .returned (.bool true) ∧ Below w.heap.size w w' := by
  have hli := light_l A la cap w hs (by omega)
  rw [hd] at hli
  have HL := Lib.hid hli
  have HT := Lib.hid hT
  have HS := Lib.hid hs
  have HZ : Hid (∀ x ∈ la, x.length ≤ 1000000) := fun x hx => by have := hz x hx; omega
  have htl := textL_bound hz
  have hll := listB_bound hz
  have b1 := split_back h0
  have b2 := get_back h0 (by omega) HZ.out
  clear hli hd hs hT hz
  have c1 := fun w1 (hb : Below w.heap.size w w1) => lcheck_l A la cap w1 (HS.out.on hb) (by omega) HZ.out (HT.out.on hb)
  have c2 := fun w1 (hb : Below w.heap.size w w1) => lput_l0 A la cap w1 (HS.out.on hb) (by omega) HZ.out (by omega) (HT.out.on hb) h0
  have c3 := fun w1 (hb : Below w.heap.size w w1) => rcheck_l A la cap w1 (HS.out.on hb) (by omega) HZ.out (HT.out.on hb)
  have c4 := fun w1 (hb : Below w.heap.size w w1) => ltext_l A la cap w1 (HS.out.on hb) (by omega) (by omega)
  have c5 := fun w1 (hb : Below w.heap.size w w1) => rtext_l A la cap w1 (HS.out.on hb) (by omega) (by omega)
  have c6 := fun w1 (hb : Below w.heap.size w w1) => split_la la (textL la) w1 (by omega) (HT.out.on hb) b1
  have c7 := fun w1 (hb : Below w.heap.size w w1) => get_la la (listB la) w1 (by omega) (HT.out.on hb) b2
  have c8 := fun w1 (hb : Below w.heap.size w w1) => rlist_l A la cap w1 (HS.out.on hb) (by omega) (by omega)
  have c9 := fun w1 A2 c2 (hb : Below w.heap.size w w1) (h2 : Strs w1 w1.heap.size A2 (toBs la)) => rsame_l A2 A la la c2 cap w1 h2 (HS.out.on hb) (by omega) (by omega)
  rw [h0] at c1 c3
  simp only [decide_true] at c9
  have C1 := Lib.hid c1
  have C2 := Lib.hid c2
  have C3 := Lib.hid c3
  have C4 := Lib.hid c4
  have C5 := Lib.hid c5
  have C6 := Lib.hid c6
  have C7 := Lib.hid c7
  have C8 := Lib.hid c8
  have C9 := Lib.hid c9
  clear c1 c2 c3 c4 c5 c6 c7 c8 c9 htl hll b1 b2 h0
  generalize toB (textL la) = tx at *
  generalize toB (listB la) = bx at *
  go_enter Tryd.func3, Tryd.ntmps3
  go_wp2_with fail
  refine HL.out.mono ?_
  rintro e w1 ⟨rfl, rfl⟩
  go_wp2_with fail
  refine (C1.out w (Below.refl _ _)).mono ?_
  rintro e w1 ⟨rfl, hb1⟩
  go_wp2_with fail
  refine (C2.out w1 hb1).mono ?_
  rintro e w2 ⟨rfl, hb⟩
  have hb2 := hb1.trans (hb.mono hb1.size)
  clear hb hb1
  go_wp2_with fail
  refine (C3.out w2 hb2).mono ?_
  rintro e w3 ⟨rfl, hb⟩
  have hb3 := hb2.trans (hb.mono hb2.size)
  clear hb hb2
  go_wp2_with fail
  refine (C4.out w3 hb3).mono ?_
  rintro e w4 ⟨rfl, hb⟩
  have hb4 := hb3.trans (hb.mono hb3.size)
  clear hb hb3
  go_wp2_with fail
  refine (C5.out w4 hb4).mono ?_
  rintro e w5 ⟨rfl, hb⟩
  have hb5 := hb4.trans (hb.mono hb4.size)
  clear hb hb4
  go_wp2_with fail
  refine (C4.out w5 hb5).mono ?_
  rintro e w6 ⟨rfl, hb⟩
  have hb6 := hb5.trans (hb.mono hb5.size)
  clear hb hb5
  go_wp2_with fail
  refine (C6.out w6 hb6).mono ?_
  rintro e w7 ⟨A7, c7, rfl, hs7, hb⟩
  have hb7 := hb6.trans (hb.mono hb6.size)
  have H7 := Lib.hid hs7
  clear hb hb6 hs7
  go_wp2_with fail
  refine (C7.out w7 hb7).mono ?_
  rintro e w8 ⟨A8, c8, rfl, hs8, hb⟩
  have hb8 := hb7.trans (hb.mono hb7.size)
  have H8 := Lib.hid hs8
  have H78 := Lib.hid (H7.out.on hb)
  clear hb hb7 hs8 H7
  go_wp2_with fail
  refine (awake3_any w8 (HT.out.on hb8)).mono ?_
  rintro e w9 ⟨rfl, hb⟩
  have hb9 := hb8.trans (hb.mono hb8.size)
  have H79 := Lib.hid (H78.out.on hb)
  have H89 := Lib.hid (H8.out.on hb)
  clear hb hb8 H78 H8
  go_wp2_with fail
  refine (C8.out w9 hb9).mono ?_
  rintro e w10 ⟨rfl, hb⟩
  have hb10 := hb9.trans (hb.mono hb9.size)
  have H7a := Lib.hid (H79.out.on hb)
  have H8a := Lib.hid (H89.out.on hb)
  clear hb hb9 H79 H89
  go_wp2_with fail
  refine (C9.out w10 A7 c7 hb10 H7a.out).mono ?_
  rintro e w11 ⟨rfl, hb⟩
  have hb11 := hb10.trans (hb.mono hb10.size)
  have H8b := Lib.hid (H8a.out.on hb)
  clear hb hb10 H7a H8a
  go_wp2_with fail
  refine (C9.out w11 A8 c8 hb11 H8b.out).mono ?_
  rintro e w12 ⟨rfl, hb⟩
  have hb12 := hb11.trans (hb.mono hb11.size)
  clear hb hb11 H8b
  go_wp2
  go_ret
  exact ⟨rfl, hb12⟩
end

theorem texts_any (A : Option Addr) (ss : List ByteArray) (cap : Nat) (w : World) (hs : Strs w w.heap.size A ss) (hn : ss.length ≤ 9223372036854775807) (hT : Tabs w) :
    Calls Tryd.prog 3 #[.slice A ss.length cap] w fun e w' => e = .returned (.bool true) ∧ Below w.heap.size w w' := by
  obtain ⟨la, rfl⟩ : ∃ la, ss = toBs la := ⟨lists ss, (toBs_lists ss).symm⟩
  rw [toBs_len] at hn ⊢
  cases hd : light3B (toBs la) with
  | false => exact texts_dark A la cap w hs hn hT hd
  | true =>
    obtain ⟨h1, h2⟩ := light3_facts hd
    by_cases h0 : checkN (toBs la) = 0
    · exact texts_good A la cap w hs h1 h2 hT hd h0
    · exact texts_bad A la cap w hs h1 h2 hT hd h0
end Go.Proofs.YtokkkjgdfnkjoaaDoor
