
/- lines.Put and lines.Get. -/
import Derived.Test.YtokkkjgdfnkjoaaDoorLineSplit
import Derived.Test.YtokkkjgdfnkjoaaDoorCodeReader3
import Derived.Test.YtokkkjgdfnkjoaaDoorReadBack
namespace Go.Proofs.YtokkkjgdfnkjoaaDoor
open Go.RowKit
set_option linter.unusedVariables false

theorem textsB_mem : ∀ {ls : List (List UInt8)} {x : List UInt8}, x ∈ ls → x.length ≤ (textsB ls).length
  | l :: ls, x, h => by
    have e : textsB (l :: ls) = textB l ++ textsB ls := rfl
    rw [e, List.length_append]
    have e2 : (textB l).length = (numB l.length).length + l.length := by simp [textB]
    rcases List.mem_cons.1 h with rfl | h
    · omega
    · have := textsB_mem h
      omega
theorem textsB_len : ∀ (ls : List (List UInt8)), ls.length ≤ (textsB ls).length
  | [] => by simp
  | l :: ls => by
    have e : textsB (l :: ls) = textB l ++ textsB ls := rfl
    have e2 : (textB l).length = (numB l.length).length + l.length := by simp [textB]
    have h1 := textsB_len ls
    have h2 : 0 < (numB l.length).length := numF_pos 9 _
    rw [e, List.length_append]
    simp only [List.length_cons]
    omega
theorem listB_mem {ls : List (List UInt8)} {x : List UInt8} (h : x ∈ ls) : x.length ≤ (listB ls).length := by
  have := textsB_mem h
  simp [listB]; omega
theorem listB_len (ls : List (List UInt8)) : ls.length ≤ (listB ls).length := by
  have := textsB_len ls
  simp [listB]; omega

set_option maxRecDepth 100000 in
theorem lput_ok (A : Option Addr) (ss : List ByteArray) (cap : Nat) (w : World) (hs : Strs w w.heap.size A ss) (hn : ss.length ≤ 1000000) (hz : ∀ s ∈ ss, s.size ≤ 9223372036854775807) (hlen : (numB ss.length).length + (textsB (lists ss)).length ≤ 140737488351232) (hT : Tabs w)
    (h0 : checkN ss = 0) : Calls Tryd.prog 9 #[.slice A ss.length cap] w fun e w' => e = .returned (.tuple #[.string ⟨(listB (lists ss)).toArray⟩, .int .i64 0]) ∧ Below w.heap.size w w' := by
  have h := lcheck_any A ss cap w hs (by omega) hz hT
  rw [h0] at h
  have HC := Lib.hid h
  have HS := Lib.hid hs
  clear h h0 hz hT hs
  go_enter Tryd.func9, Tryd.ntmps9
  go_wp2_with fail
  refine HC.out.mono ?_
  rintro e w1 ⟨rfl, hb⟩
  clear HC
  go_wp2_with fail
  refine (list_any A ss cap w1 (HS.out.on hb) (by omega) hlen).mono ?_
  rintro e w2 ⟨rfl, hb2⟩
  have hb3 := hb.trans (hb2.mono hb.size)
  clear HS hb hb2
  go_wp2
  go_ret2
  exact ⟨rfl, hb3⟩
set_option maxRecDepth 100000 in
theorem lput_bad (A : Option Addr) (ss : List ByteArray) (cap : Nat) (w : World) (hs : Strs w w.heap.size A ss) (hn : ss.length ≤ 1000000) (hz : ∀ s ∈ ss, s.size ≤ 9223372036854775807) (hT : Tabs w)
    (h0 : checkN ss ≠ 0) : Calls Tryd.prog 9 #[.slice A ss.length cap] w fun e w' => e = .returned (.tuple #[.string ⟨#[]⟩, .int .i64 (checkN ss)]) ∧ Below w.heap.size w w' := by
  have HC := Lib.hid (lcheck_any A ss cap w hs (by omega) hz hT)
  have hne : (checkN ss != 0) = true := by rw [bne_iff_ne]; exact h0
  clear h0 hz hT hs
  generalize checkN ss = er at *
  go_enter Tryd.func9, Tryd.ntmps9
  go_wp2_with fail
  refine HC.out.mono ?_
  rintro e w1 ⟨rfl, hb⟩
  clear HC
  go_wp2
  go_ret2
  exact ⟨rfl, hb⟩

/-- The error of bytes' lines. -/
def getE (l : List UInt8) : Int := if (rList l).2.1 ≠ 0 then (rList l).2.1 else if (rList l).2.2 ≠ [] then 6 else checkN (toBs (rList l).1)

set_option maxRecDepth 100000 in
theorem lget_any (s : ByteArray) (w : World) (hs : s.size ≤ 1000000) (hT : Tabs w) :
    Calls Tryd.prog 14 #[.string s] w (Told w (rList s.data.toList).1 (getE s.data.toList)) := by
  have HT := Lib.hid hT
  have hlen : s.data.toList.length ≤ 1000000 := by simpa using hs
  have hback := fun (ls : List (List UInt8)) r => rList_back (l := s.data.toList) (ls := ls) (r := r)
  have HL : ∀ g w1, Rd w1 g s.data.toList 0 → Calls Tryd.prog 30 #[.pointer (some ⟨g, 0, none⟩)] w1 (ListEnd w1 g (rList s.data.toList)) := fun g w1 h => rlist_ok g _ w1 h (by omega)
  rcases hR : rList s.data.toList with ⟨ls, er, r⟩
  have hge : getE s.data.toList = if er ≠ 0 then er else if r ≠ [] then 6 else checkN (toBs ls) := by unfold getE; rw [hR]
  rw [hR] at HL hback
  simp only at HL hback ⊢
  have HL2 := Lib.hid HL
  clear HL hT hR
  by_cases h0 : er = 0
  · subst h0
    by_cases hr : r = []
    · subst hr
      have hge2 : getE s.data.toList = checkN (toBs ls) := by rw [hge]; simp
      rw [hge2]
      have hl2 : ∀ x ∈ ls, x.length ≤ 1000000 := by
        intro x hx
        have e := hback ls [] rfl
        have h1 := listB_mem hx
        rw [e, List.append_nil] at hlen
        omega
      have hn2 : ls.length ≤ 1000000 := by
        have e := hback ls [] rfl
        have h1 := listB_len ls
        rw [e, List.append_nil] at hlen
        omega
      have hz := Lib.hid (sizes_ok hl2)
      clear hge hge2 hback hl2
      go_enter Tryd.func14, Tryd.ntmps14
      go_wp2_with fail
      refine (read_any s w).mono ?_
      rintro e w1 ⟨rfl, hr1, hb1⟩
      have HR1 := Lib.hid hr1
      clear hr1
      go_wp2_with fail
      refine (HL2.out _ _ HR1.out).mono ?_
      rintro e w2 ⟨A, c, ss, rfl, hls, hstr, hnil, hr2, hg2⟩
      have hss : ss = toBs ls := by rw [← toBs_lists ss, hls]
      have hc : ss.length = ls.length := by rw [hss, toBs_len]
      rw [hss] at hstr
      rw [hc] at hnil ⊢
      have HR2 := Lib.hid hr2
      have HS2 := Lib.hid hstr
      have HN2 := Lib.hid hnil
      have hb2 := below_grown hb1 hg2 (Nat.le_refl _)
      clear hr2 hstr hnil hls hss hc hb1 hg2 HL2 HR1
      go_wp2_with fail
      refine (err_any _ _ _ _ HR2.out).mono ?_
      rintro e w3 ⟨rfl, rfl⟩
      go_wp2_with fail
      refine (left_any _ _ _ _ HR2.out).mono ?_
      rintro e w4 ⟨rfl, rfl⟩
      go_wp2_with fail
      refine (checked_any A ls c w2 HN2.out HS2.out hn2 hz.out (HT.out.on hb2)).mono ?_
      rintro e w4 h4
      obtain ⟨A4, cap4, l4, rfl, hl4, hA4, hs4, hb4⟩ := h4.lift hb2 (fun _ => rfl)
      have HL4 := Lib.hid hl4
      have H4 := Lib.hid hs4
      have HA4 := Lib.hid hA4
      clear hs4 hA4 h4 hl4
      go_wp2
      go_ret2
      exact ⟨A4, cap4, l4, rfl, HL4.out, HA4.out, H4.out, hb4⟩
    · have hge2 : getE s.data.toList = 6 := by rw [hge]; simp [hr]
      rw [hge2]
      have hpos : 0 < r.length := List.length_pos_iff.2 hr
      clear hge hge2 hback hr
      go_enter Tryd.func14, Tryd.ntmps14
      go_wp2_with fail
      refine (read_any s w).mono ?_
      rintro e w1 ⟨rfl, hr1, hb1⟩
      have HR1 := Lib.hid hr1
      clear hr1
      go_wp2_with fail
      refine (HL2.out _ _ HR1.out).mono ?_
      rintro e w2 ⟨A, c, ss, rfl, hls, hstr, hnil, hr2, hg2⟩
      have HR2 := Lib.hid hr2
      have hb2 := below_grown hb1 hg2 (Nat.le_refl _)
      clear hr2 hstr hnil hls hb1 hg2 HL2 HR1
      go_wp2_with fail
      refine (err_any _ _ _ _ HR2.out).mono ?_
      rintro e w3 ⟨rfl, rfl⟩
      go_wp2_with fail
      refine (left_any _ _ _ _ HR2.out).mono ?_
      rintro e w4 ⟨rfl, rfl⟩
      go_wp2
      go_ret2
      exact told_none _ _ _ _ (by decide) hb2
  · have hge2 : getE s.data.toList = er := by rw [hge]; simp [h0]
    rw [hge2]
    have hne : (er != 0) = true := by rw [bne_iff_ne]; exact h0
    have H0 := Lib.hid h0
    clear hge hge2 hback h0
    go_enter Tryd.func14, Tryd.ntmps14
    go_wp2_with fail
    refine (read_any s w).mono ?_
    rintro e w1 ⟨rfl, hr1, hb1⟩
    have HR1 := Lib.hid hr1
    clear hr1
    go_wp2_with fail
    refine (HL2.out _ _ HR1.out).mono ?_
    rintro e w2 ⟨A, c, ss, rfl, hls, hstr, hnil, hr2, hg2⟩
    have HR2 := Lib.hid hr2
    have hb2 := below_grown hb1 hg2 (Nat.le_refl _)
    clear hr2 hstr hnil hls hb1 hg2 HL2 HR1
    go_wp2_with fail
    refine (err_any _ _ _ _ HR2.out).mono ?_
    rintro e w3 ⟨rfl, rfl⟩
    go_wp2_with fail
    refine (err_any _ _ _ _ HR2.out).mono ?_
    rintro e w3 ⟨rfl, rfl⟩
    go_wp2
    go_ret2
    exact told_none _ _ _ _ H0.out hb2
end Go.Proofs.YtokkkjgdfnkjoaaDoor
