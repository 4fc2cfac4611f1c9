
/- The calls of layer 3 and of its reference, over lists of bytes; the statements' awake. -/
import Derived.Test.YtokkkjgdfnkjoaaDoorLineGet
import Derived.Test.YtokkkjgdfnkjoaaDoorLineFind
import Derived.Test.YtokkkjgdfnkjoaaDoorLineText
import Derived.Test.YtokkkjgdfnkjoaaDoorLight03
import Derived.Test.YtokkkjgdfnkjoaaDoorRefList
import Derived.Test.YtokkkjgdfnkjoaaDoorSame
import Derived.Test.YtokkkjgdfnkjoaaDoorHeld
namespace Go.Proofs.YtokkkjgdfnkjoaaDoor
open Go.RowKit
set_option linter.unusedVariables false

section
variable (A A2 : Option Addr) (la lc : List (List UInt8)) (cap cap2 : Nat) (w : World)
theorem lsame_l (hs : Strs w w.heap.size A (toBs la)) (ht : Strs w w.heap.size A2 (toBs lc)) (hn : la.length ≤ 1000000) (hn2 : lc.length ≤ 1000000) :
    Calls Tryd.prog 20 #[.slice A la.length cap, .slice A2 lc.length cap2] w fun e w' => e = .returned (.bool (decide (la = lc))) ∧ ∃ q, w' = w.drewN q := by
  have h := lsame_any A A2 (toBs la) (toBs lc) cap cap2 w hs ht (by rw [toBs_len]; omega) (by rw [toBs_len]; omega)
  rw [toBs_len, toBs_len, show decide (toBs la = toBs lc) = decide (la = lc) from by simp only [toBs_inj]] at h
  exact h
theorem rsame_l (hs : Strs w w.heap.size A (toBs la)) (ht : Strs w w.heap.size A2 (toBs lc)) (hn : la.length ≤ 1000000) (hn2 : lc.length ≤ 1000000) :
    Calls Tryd.prog 16 #[.slice A la.length cap, .slice A2 lc.length cap2] w fun e w' => e = .returned (.bool (decide (la = lc))) ∧ Below w.heap.size w w' := by
  have h := same_any A A2 (toBs la) (toBs lc) cap cap2 w hs ht (by rw [toBs_len]; omega) (by rw [toBs_len]; omega)
  rw [toBs_len, toBs_len, show decide (toBs la = toBs lc) = decide (la = lc) from by simp only [toBs_inj]] at h
  exact h
theorem ltext_l (hs : Strs w w.heap.size A (toBs la)) (hn : la.length ≤ 1000000) (hz : (textL la).length ≤ 140737488351232) :
    Calls Tryd.prog 11 #[.slice A la.length cap] w fun e w' => e = .returned (.string (toB (textL la))) ∧ Below w.heap.size w w' := by
  have h := ltext_any A (toBs la) cap w hs (by rw [toBs_len]; omega) (by rw [lists_toBs]; exact hz)
  rw [toBs_len, lists_toBs] at h
  exact h
theorem rtext_l (hs : Strs w w.heap.size A (toBs la)) (hn : la.length ≤ 1000000) (hz : (textL la).length ≤ 140737488351232) :
    Calls Tryd.prog 12 #[.slice A la.length cap] w fun e w' => e = .returned (.string (toB (textL la))) ∧ Below w.heap.size w w' := by
  have h := reftext3_any A (toBs la) cap w hs (by rw [toBs_len]; omega) (by rw [lists_toBs]; exact hz)
  rw [toBs_len, lists_toBs] at h
  exact h
theorem lput_l0 (hs : Strs w w.heap.size A (toBs la)) (hn : la.length ≤ 1000000) (hz : ∀ x ∈ la, x.length ≤ 1000000) (hlen : (listB la).length ≤ 140737488351232) (hT : Tabs w) (h0 : checkN (toBs la) = 0) :
    Calls Tryd.prog 9 #[.slice A la.length cap] w fun e w' => e = .returned (.tuple #[.string (toB (listB la)), .int .i64 0]) ∧ Below w.heap.size w w' := by
  have h := lput_ok A (toBs la) cap w hs (by rw [toBs_len]; omega) (sizes_ok hz) (by rw [lists_toBs, toBs_len]; simpa [listB] using hlen) hT h0
  rw [toBs_len, lists_toBs] at h
  exact h
theorem lput_l1 (hs : Strs w w.heap.size A (toBs la)) (hn : la.length ≤ 1000000) (hz : ∀ x ∈ la, x.length ≤ 1000000) (hT : Tabs w) (h0 : checkN (toBs la) ≠ 0) :
    Calls Tryd.prog 9 #[.slice A la.length cap] w fun e w' => e = .returned (.tuple #[.string ⟨#[]⟩, .int .i64 (checkN (toBs la))]) ∧ Below w.heap.size w w' := by
  have h := lput_bad A (toBs la) cap w hs (by rw [toBs_len]; omega) (sizes_ok hz) hT h0
  rw [toBs_len] at h
  exact h
theorem lcheck_l (hs : Strs w w.heap.size A (toBs la)) (hn : la.length ≤ 1000000) (hz : ∀ x ∈ la, x.length ≤ 1000000) (hT : Tabs w) :
    Calls Tryd.prog 8 #[.slice A la.length cap] w fun e w' => e = .returned (.int .i64 (checkN (toBs la))) ∧ Below w.heap.size w w' := by
  have h := lcheck_any A (toBs la) cap w hs (by rw [toBs_len]; omega) (sizes_ok hz) hT
  rw [toBs_len] at h
  exact h
theorem rcheck_l (hs : Strs w w.heap.size A (toBs la)) (hn : la.length ≤ 1000000) (hz : ∀ x ∈ la, x.length ≤ 1000000) (hT : Tabs w) :
    Calls Tryd.prog 10 #[.slice A la.length cap] w fun e w' => e = .returned (.int .i64 (checkN (toBs la))) ∧ Below w.heap.size w w' := by
  have h := refcheck_any A (toBs la) cap w hs (by rw [toBs_len]; omega) (sizes_ok hz) hT
  rw [toBs_len] at h
  exact h
theorem rlist_l (hs : Strs w w.heap.size A (toBs la)) (hn : la.length ≤ 1000000) (hlen : (listB la).length ≤ 140737488351232) :
    Calls Tryd.prog 15 #[.slice A la.length cap] w fun e w' => e = .returned (.string (toB (listB la))) ∧ Below w.heap.size w w' := by
  have h := reflist_any A (toBs la) cap w hs (by rw [toBs_len]; omega) (by rw [lists_toBs, toBs_len]; simpa [listB] using hlen)
  rw [toBs_len, lists_toBs] at h
  exact h
theorem light_l (hs : Strs w w.heap.size A (toBs la)) (hn : la.length ≤ 9223372036854775807) :
    Calls Tryd.prog 6 #[.slice A la.length cap] w fun e w' => e = .returned (.bool (light3B (toBs la))) ∧ w = w' := by
  have h := light3_any A (toBs la) cap w hs (by rw [toBs_len]; omega)
  rw [toBs_len] at h
  exact h
end

/-- awake's calls, each at its input. -/
theorem split_aw (w : World) (hT : Tabs w) : Calls Tryd.prog 13 #[.string ⟨#[97, 10, 10]⟩] w fun e w' => ∃ b off cap, e = .returned (.tuple #[.slice (some ⟨b, off, none⟩) 2 cap, .int .i64 0]) ∧ w'.cell? ⟨b, off, none⟩ = some (.string ⟨#[97]⟩) ∧ Room (some ⟨b, off, none⟩) 2 cap ∧ Held w w' [(some ⟨b, off, none⟩, [[97], []])] := by
  refine (lsplit_any ⟨#[97, 10, 10]⟩ w (by decide) hT).mono ?_
  rintro e w' ⟨A, cap, l, rfl, ⟨hl, _⟩, hA, hs, hb⟩
  have h0 : splitE ⟨#[97, 10, 10]⟩ = 0 := by decide +kernel
  have h1 : (splitGo [] (⟨#[97, 10, 10]⟩ : ByteArray).data.toList).1 = [[97], []] := by decide
  rw [h0]
  obtain rfl := (hl h0).trans h1
  obtain ⟨b, off, rfl, hlt, hc⟩ := hs (by decide)
  exact ⟨b, off, cap, rfl, hc 0 (by decide), hA, hb, fun p hp => by
    obtain rfl : p = (some ⟨b, off, none⟩, [[97], []]) := by simpa using hp
    exact hs⟩
theorem put_aw (b off cap : Nat) (w0 w : World) (hT : Tabs w) (h : Held w0 w [(some ⟨b, off, none⟩, [[97], []])]) : Calls Tryd.prog 9 #[.slice (some ⟨b, off, none⟩) 2 cap] w fun e w' => e = .returned (.tuple #[.string ⟨#[2, 1, 97, 0]⟩, .int .i64 0]) ∧ Held w0 w' [(some ⟨b, off, none⟩, [[97], []])] := by
  refine (lput_l0 (some ⟨b, off, none⟩) [[97], []] cap w (h.get (by simp)) (by decide) (by decide) (by decide) hT (by decide +kernel)).mono ?_
  rintro e w' ⟨rfl, hb⟩
  exact ⟨rfl, h.step hb⟩
theorem get_aw (b off : Nat) (w0 w : World) (hT : Tabs w) (h : Held w0 w [(some ⟨b, off, none⟩, [[97], []])]) : Calls Tryd.prog 14 #[.string ⟨#[2, 1, 97, 0]⟩] w fun e w' => ∃ A c, e = .returned (.tuple #[.slice A 2 c, .int .i64 0]) ∧ Held w0 w' [(A, [[97], []]), (some ⟨b, off, none⟩, [[97], []])] := by
  refine (lget_any ⟨#[2, 1, 97, 0]⟩ w (by decide) hT).mono ?_
  rintro e w' ⟨A, cap, l, rfl, ⟨hl, _⟩, hA, hs, hb⟩
  have h0 : getE (⟨#[2, 1, 97, 0]⟩ : ByteArray).data.toList = 0 := by decide +kernel
  have h1 : (rList (⟨#[2, 1, 97, 0]⟩ : ByteArray).data.toList).1 = [[97], []] := by decide +kernel
  rw [h0]
  obtain rfl := (hl h0).trans h1
  exact ⟨A, cap, rfl, (h.step hb).push hs⟩
theorem text_aw (b off cap : Nat) (w0 w : World) (m) (h : Held w0 w m) (hm : (some ⟨b, off, none⟩, [[97], []]) ∈ m) : Calls Tryd.prog 11 #[.slice (some ⟨b, off, none⟩) 2 cap] w fun e w' => e = .returned (.string ⟨#[97, 10, 10]⟩) ∧ Held w0 w' m := by
  refine (ltext_l (some ⟨b, off, none⟩) [[97], []] cap w (h.get hm) (by decide) (by decide)).mono ?_
  rintro e w' ⟨rfl, hb⟩
  exact ⟨rfl, h.step hb⟩
theorem same_aw (A A2 : Option Addr) (cap cap2 : Nat) (w0 w : World) (m) (h : Held w0 w m) (hm : (A, [[97], []]) ∈ m) (hm2 : (A2, [[97], []]) ∈ m) : Calls Tryd.prog 20 #[.slice A 2 cap, .slice A2 2 cap2] w fun e w' => e = .returned (.bool true) ∧ Held w0 w' m := by
  refine (lsame_l A A2 [[97], []] [[97], []] cap cap2 w (h.get hm) (h.get hm2) (by decide) (by decide)).mono ?_
  rintro e w' ⟨rfl, q, rfl⟩
  exact ⟨rfl, h.quiet q⟩
theorem find_aw (b off cap : Nat) (w0 w : World) (m) (hR : Room (some ⟨b, off, none⟩) 2 cap) (h : Held w0 w m) (hm : (some ⟨b, off, none⟩, [[97], []]) ∈ m) : Calls Tryd.prog 18 #[.slice (some ⟨b, off, none⟩) 2 cap, .slice (some ⟨w.heap.size, 0, none⟩) 1 1, .int .i64 0] (w.alloc (.cells #[.string ⟨#[]⟩] 9)) fun e w' => e = .returned (.int .i64 1) ∧ Held w0 w' m := by
  have hb : Below w.heap.size w (w.alloc (.cells #[.string ⟨#[]⟩] 9)) := (Below.refl _ w).alloc (Nat.le_refl _) _
  have hs : Strs (w.alloc (.cells #[.string ⟨#[]⟩] 9)) (w.alloc (.cells #[.string ⟨#[]⟩] 9)).heap.size (some ⟨w.heap.size, 0, none⟩) (toBs [[]]) := strs_one w ⟨#[]⟩
  refine (lfind_any (some ⟨b, off, none⟩) (some ⟨w.heap.size, 0, none⟩) [[97], []] [[]] cap 1 0 _ ((h.step hb).get hm) hs (by decide) (by decide) hR (by decide) (by decide)).mono ?_
  rintro e w' ⟨v, rfl, hv, q, rfl⟩
  have h1 : IsFind [[97], []] [[]] 0 1 := .inr ⟨1, rfl, by decide, by decide, fun j hj _ => by
    obtain rfl : j = 0 := by omega
    decide⟩
  rw [hv.uniq h1]
  exact ⟨rfl, (h.step hb).quiet q⟩
theorem right_aw (w0 w : World) (m) (hT : Tabs w) (h : Held w0 w m) : Calls Tryd.prog 21 #[.string ⟨#[10]⟩] w fun e w' => e = .returned (.bool false) ∧ Held w0 w' m := by
  refine (lright_any ⟨#[10]⟩ w (by decide) hT).mono ?_
  rintro e w' ⟨rfl, hb⟩
  exact ⟨by rw [show lineB ⟨#[10]⟩ = false from by decide +kernel], h.step hb⟩

set_option maxRecDepth 100000 in
theorem awake3_any (w : World) (hT : Tabs w) : Calls Tryd.prog 7 #[] w fun e w' => e = .returned (.bool true) ∧ Below w.heap.size w w' := by
  have HT := Lib.hid hT
  go_enter Tryd.func7, Tryd.ntmps7
  go_wp2_with fail
  refine (split_aw w hT).mono ?_
  rintro e w1 ⟨b, off, cap, rfl, hc, hR, hh⟩
  have H1 := Lib.hid hh
  have HR := Lib.hid hR
  have HC1 := Lib.hid hc
  clear hh hR hT hc
  go_wp2_with fail
  refine (put_aw b off cap w w1 (HT.out.on H1.out.1) H1.out).mono ?_
  rintro e w2 ⟨rfl, hh⟩
  have H2 := Lib.hid hh
  clear hh H1 HC1
  go_wp2_with fail
  refine (get_aw b off w w2 (HT.out.on H2.out.1) H2.out).mono ?_
  rintro e w3 ⟨A2, c2, rfl, hh⟩
  have hc : w3.cell? ⟨b, off, none⟩ = some (.string ⟨#[97]⟩) := by
    obtain ⟨b2, off2, e, _, hc⟩ := (hh.get (A := some ⟨b, off, none⟩) (ls := [[97], []]) (by simp)) (by decide)
    cases e
    exact hc 0 (by decide)
  have H3 := Lib.hid hh
  clear hh H2
  go_wp2_with fail
  refine (text_aw b off cap w w3 _ H3.out (by simp)).mono ?_
  rintro e w4 ⟨rfl, hh⟩
  have H4 := Lib.hid hh
  clear hh H3 hc
  go_wp2_with fail
  refine (same_aw (some ⟨b, off, none⟩) A2 cap c2 w w4 _ H4.out (by simp) (by simp)).mono ?_
  rintro e w5 ⟨rfl, hh⟩
  have H5 := Lib.hid hh
  clear hh H4
  go_wp2_with fail
  refine (find_aw b off cap w w5 _ HR.out H5.out (by simp)).mono ?_
  rintro e w6 ⟨rfl, hh⟩
  have H6 := Lib.hid hh
  clear hh H5
  go_wp2_with fail
  refine (right_aw w w6 _ (HT.out.on H6.out.1) H6.out).mono ?_
  rintro e w7 ⟨rfl, hh⟩
  have hb := hh.1
  clear hh H6
  go_wp2
  go_ret
  exact ⟨rfl, hb⟩
end Go.Proofs.YtokkkjgdfnkjoaaDoor
