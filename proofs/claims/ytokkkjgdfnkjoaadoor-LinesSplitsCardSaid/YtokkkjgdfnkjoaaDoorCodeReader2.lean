
/- package code's Reader: Num, count and Text. -/
import Derived.Test.YtokkkjgdfnkjoaaDoorCodeReader
namespace Go.Proofs.YtokkkjgdfnkjoaaDoor
open Go.RowKit
set_option linter.unusedVariables false

theorem ends_none (l : List UInt8) (w : World) (hl : l.length ≤ 9223372036854775807) (h : numEnd l = none) :
    Calls Tryd.prog 55 #[.string ⟨l.toArray⟩] w fun e w' => e = .returned (.int .i64 (-1)) ∧ w = w' := by
  have := numberEnd_any ⟨l.toArray⟩ w (by rw [size_of_mk]; exact hl)
  rw [show (⟨l.toArray⟩ : ByteArray).data.toList = l from by simp, h] at this
  exact this
theorem ends_some (l : List UInt8) (k : Nat) (w : World) (hl : l.length ≤ 9223372036854775807) (h : numEnd l = some k) :
    Calls Tryd.prog 55 #[.string ⟨l.toArray⟩] w fun e w' => e = .returned (.int .i64 (k : Int)) ∧ w = w' := by
  have := numberEnd_any ⟨l.toArray⟩ w (by rw [size_of_mk]; exact hl)
  rw [show (⟨l.toArray⟩ : ByteArray).data.toList = l from by simp, h] at this
  exact this
theorem extract_take (l : List UInt8) (k : Nat) : ((⟨l.toArray⟩ : ByteArray).extract 0 k) = ⟨(l.take k).toArray⟩ := by
  apply ByteArray.ext
  simp
theorem extract_drop (l : List UInt8) (k : Nat) : ((⟨l.toArray⟩ : ByteArray).extract k l.length) = ⟨(l.drop k).toArray⟩ := by
  apply ByteArray.ext
  simp
  exact List.take_of_length_le (by simp)
theorem number_take (l : List UInt8) (k : Nat) (w : World) (hl : l.length ≤ 9223372036854775807) :
    Calls Tryd.prog 56 #[.string ((⟨l.toArray⟩ : ByteArray).extract 0 k)] w fun e w' => e = .returned (pair (numVal (l.take k))) ∧ w = w' := by
  rw [extract_take]
  have := number_any ⟨(l.take k).toArray⟩ w (by rw [size_of_mk, List.length_take]; omega)
  rw [show (⟨(l.take k).toArray⟩ : ByteArray).data.toList = l.take k from by simp] at this
  exact this
theorem number_none (l : List UInt8) (k : Nat) (w : World) (hl : l.length ≤ 9223372036854775807) (h : numVal (l.take k) = none) :
    Calls Tryd.prog 56 #[.string ((⟨l.toArray⟩ : ByteArray).extract 0 k)] w fun e w' => e = .returned (.tuple #[.int .u64 0, .bool false]) ∧ w = w' := by
  have := number_take l k w hl
  rw [h] at this
  exact this
theorem number_some (l : List UInt8) (k n : Nat) (w : World) (hl : l.length ≤ 9223372036854775807) (h : numVal (l.take k) = some n) :
    Calls Tryd.prog 56 #[.string ((⟨l.toArray⟩ : ByteArray).extract 0 k)] w fun e w' => e = .returned (.tuple #[.int .u64 (n : Int), .bool true]) ∧ w = w' := by
  have := number_take l k w hl
  rw [h] at this
  exact this

set_option maxRecDepth 100000 in
theorem rnum_bad (g : Nat) (l : List UInt8) (e0 : Int) (w : World) (h : Rd w g l e0) (h0 : e0 ≠ 0) :
    Calls Tryd.prog 52 #[.pointer (some ⟨g, 0, none⟩)] w fun e w' => e = .returned (.int .u64 0) ∧ w = w' := by
  have hn : (e0 != 0) = true := by rw [bne_iff_ne]; exact h0
  have H := Lib.hid h
  clear h
  go_enter Tryd.func52, Tryd.ntmps52
  go_wp2_with (go_at_call 31; refine (err_any g l e0 _ H.out).mono ?_; rintro e w' ⟨rfl, rfl⟩)
  go_ret
  exact ⟨rfl, rfl⟩

set_option maxRecDepth 100000 in
theorem rnum_ok (g : Nat) (l : List UInt8) (w : World) (h : Rd w g l 0) (hl : l.length ≤ 9223372036854775807) :
    Calls Tryd.prog 52 #[.pointer (some ⟨g, 0, none⟩)] w fun e w' => e = .returned (.int .u64 ((rNum l).1 : Int)) ∧ Rd w' g (rNum l).2.2 (rNum l).2.1 ∧ w.grownBy w' (some g) := by
  have hc0 := h.c0
  have hf0 := h.f 0
  have H := Lib.hid h
  clear h
  rcases hE : numEnd l with _ | k
  · have hr : rNum l = (0, 5, []) := by unfold rNum; rw [hE]
    rw [hr]
    have HE := Lib.hid (ends_none l w hl hE)
    clear hE hr
    go_enter Tryd.func52, Tryd.ntmps52
    go_wp2_with (first
      | (go_at_call 31; refine (err_any g l 0 _ H.out).mono ?_; rintro e w' ⟨rfl, rfl⟩)
      | (go_at_call 55; refine HE.out.mono ?_; rintro e w' ⟨rfl, rfl⟩)
      | (go_at_call 53; refine (fail_any g l 0 5 _ H.out).mono ?_; rintro e w2 ⟨rfl, hr2, hg2⟩))
    go_ret
    exact ⟨rfl, hr2, hg2⟩
  · obtain ⟨hk1, hk2⟩ := numEnd_pos l k hE
    have HE := Lib.hid (ends_some l k w hl hE)
    rcases hV : numVal (l.take k) with _ | n
    · have hr : rNum l = (0, 6, []) := by unfold rNum; rw [hE]; simp only [hV]
      rw [hr]
      have HN := Lib.hid (number_none l k w hl hV)
      clear hE hr hV
      go_enter Tryd.func52, Tryd.ntmps52
      go_wp2_with (first
        | (go_at_call 31; refine (err_any g l 0 _ H.out).mono ?_; rintro e w' ⟨rfl, rfl⟩)
        | (go_at_call 55; refine HE.out.mono ?_; rintro e w' ⟨rfl, rfl⟩)
        | (go_at_call 56; refine HN.out.mono ?_; rintro e w' ⟨rfl, rfl⟩)
        | (go_at_call 53; refine (fail_any g l 0 6 _ H.out).mono ?_; rintro e w2 ⟨rfl, hr2, hg2⟩))
      go_ret
      exact ⟨rfl, hr2, hg2⟩
    · have hr : rNum l = (n, 0, l.drop k) := by unfold rNum; rw [hE]; simp only [hV]
      rw [hr]
      have HN := Lib.hid (number_some l k n w hl hV)
      have hx := Lib.hid (extract_drop l k)
      clear hE hr hV
      go_enter Tryd.func52, Tryd.ntmps52
      go_wp2_with (first
        | (go_at_call 31; refine (err_any g l 0 _ H.out).mono ?_; rintro e w' ⟨rfl, rfl⟩)
        | (go_at_call 55; refine HE.out.mono ?_; rintro e w' ⟨rfl, rfl⟩)
        | (go_at_call 56; refine HN.out.mono ?_; rintro e w' ⟨rfl, rfl⟩))
      go_ret
      rw [hx.out]
      exact ⟨rfl, H.out.set0 _, grownBy_set _ _ _ _⟩

set_option maxRecDepth 100000 in
theorem count_bad (g : Nat) (l : List UInt8) (e0 : Int) (w : World) (h : Rd w g l e0) (h0 : e0 ≠ 0) (hl : l.length ≤ 9223372036854775807) :
    Calls Tryd.prog 44 #[.pointer (some ⟨g, 0, none⟩)] w fun e w' => e = .returned (.int .i64 0) ∧ w = w' := by
  have H := Lib.hid h
  clear h
  go_enter Tryd.func44, Tryd.ntmps44
  go_wp2_with (first
    | (go_at_call 52; refine (rnum_bad g l e0 _ H.out h0).mono ?_; rintro e w' ⟨rfl, rfl⟩)
    | (go_at_call 32; refine (left_any g l e0 _ H.out).mono ?_; rintro e w' ⟨rfl, rfl⟩))
  go_ret
  exact ⟨rfl, rfl⟩

set_option maxRecDepth 100000 in
theorem count_ok (g : Nat) (l : List UInt8) (w : World) (h : Rd w g l 0) (hl : l.length ≤ 9223372036854775807) :
    Calls Tryd.prog 44 #[.pointer (some ⟨g, 0, none⟩)] w fun e w' => e = .returned (.int .i64 ((rCount l).1 : Int)) ∧ Rd w' g (rCount l).2.2 (rCount l).2.1 ∧ w.grownBy w' (some g) := by
  have HN := Lib.hid (rnum_ok g l w h hl)
  have hlen := rNum_len l
  have herr := rNum_err l
  rcases hR : rNum l with ⟨n, e0, r⟩
  rw [hR] at HN hlen herr
  simp only at HN hlen herr
  have hC : rCount l = if e0 ≠ 0 then (0, e0, []) else if r.length < n then (0, 5, []) else (n, 0, r) := by
    unfold rCount
    rw [hR]
    by_cases h0 : e0 = 0
    · subst h0; rfl
    · simp [h0]
  clear hR
  by_cases h0 : e0 = 0
  · subst h0
    by_cases hn : r.length < n
    · have hc2 : rCount l = (0, 5, []) := by rw [hC]; simp [hn]
      rw [hc2]
      clear hC hc2 herr h
      go_enter Tryd.func44, Tryd.ntmps44
      go_wp2_with (go_at_call 52; refine HN.out.mono ?_)
      rintro e w1 ⟨rfl, hr1, hg1⟩
      have HR := Lib.hid hr1
      clear hr1
      go_wp2_with (first
        | (go_at_call 32; refine (left_any g r 0 _ HR.out).mono ?_; rintro e w' ⟨rfl, rfl⟩)
        | (go_at_call 53; refine (fail_any g r 0 5 _ HR.out).mono ?_; rintro e w2 ⟨rfl, hr2, hg2⟩))
      go_ret
      exact ⟨rfl, hr2, grownBy_trans hg1 hg2⟩
    · have hc2 : rCount l = (n, 0, r) := by rw [hC]; simp [hn]
      rw [hc2]
      clear hC hc2 herr h
      go_enter Tryd.func44, Tryd.ntmps44
      go_wp2_with (go_at_call 52; refine HN.out.mono ?_)
      rintro e w1 ⟨rfl, hr1, hg1⟩
      have HR := Lib.hid hr1
      clear hr1
      go_wp2_with (go_at_call 32; refine (left_any g r 0 _ HR.out).mono ?_; rintro e w' ⟨rfl, rfl⟩)
      go_ret
      exact ⟨rfl, HR.out, hg1⟩
  · obtain ⟨rfl, rfl⟩ := herr h0
    have hc2 : rCount l = (0, e0, []) := by rw [hC]; simp [h0]
    rw [hc2]
    clear hC hc2 herr h
    go_enter Tryd.func44, Tryd.ntmps44
    go_wp2_with (go_at_call 52; refine HN.out.mono ?_)
    rintro e w1 ⟨rfl, hr1, hg1⟩
    have HR := Lib.hid hr1
    clear hr1
    go_wp2_with (go_at_call 32; refine (left_any g [] e0 _ HR.out).mono ?_; rintro e w' ⟨rfl, rfl⟩)
    go_ret
    exact ⟨rfl, HR.out, hg1⟩

set_option maxRecDepth 100000 in
theorem rtext_bad (g : Nat) (l : List UInt8) (e0 : Int) (w : World) (h : Rd w g l e0) (h0 : e0 ≠ 0) (hl : l.length ≤ 9223372036854775807) :
    Calls Tryd.prog 45 #[.pointer (some ⟨g, 0, none⟩)] w fun e w' => e = .returned (.string ⟨#[]⟩) ∧ w = w' := by
  have hn : (e0 != 0) = true := by rw [bne_iff_ne]; exact h0
  have H := Lib.hid h
  clear h
  go_enter Tryd.func45, Tryd.ntmps45
  go_wp2_with (first
    | (go_at_call 44; refine (count_bad g l e0 _ H.out h0 hl).mono ?_; rintro e w' ⟨rfl, rfl⟩)
    | (go_at_call 31; refine (err_any g l e0 _ H.out).mono ?_; rintro e w' ⟨rfl, rfl⟩))
  go_ret
  exact ⟨rfl, rfl⟩

set_option maxRecDepth 100000 in
theorem rtext_ok (g : Nat) (l : List UInt8) (w : World) (h : Rd w g l 0) (hl : l.length ≤ 9223372036854775807) :
    Calls Tryd.prog 45 #[.pointer (some ⟨g, 0, none⟩)] w fun e w' => e = .returned (.string ⟨(rText l).1.toArray⟩) ∧ Rd w' g (rText l).2.2 (rText l).2.1 ∧ w.grownBy w' (some g) := by
  have HC := Lib.hid (count_ok g l w h hl)
  have hlen := rCount_len l
  have hle := rCount_le l
  rcases hR : rCount l with ⟨n, e0, r⟩
  rw [hR] at HC hlen hle
  simp only at HC hlen hle
  have hT : rText l = if e0 ≠ 0 then ([], e0, []) else (r.take n, 0, r.drop n) := by unfold rText; rw [hR]
  have herr := rCount_err l
  rw [hR] at herr
  simp only at herr
  clear hR h
  by_cases h0 : e0 = 0
  · subst h0
    have ht : rText l = (r.take n, 0, r.drop n) := by rw [hT]; simp
    rw [ht]
    have ht1 := Lib.hid (extract_take r n)
    have ht2 := Lib.hid (extract_drop r n)
    clear hT ht herr
    go_enter Tryd.func45, Tryd.ntmps45
    go_wp2_with (go_at_call 44; refine HC.out.mono ?_)
    rintro e w1 ⟨rfl, hr1, hg1⟩
    have hc0 := hr1.c0
    have hf0 := hr1.f 0
    have HR := Lib.hid hr1
    clear hr1
    go_wp2_with (go_at_call 31; refine (err_any g r 0 _ HR.out).mono ?_; rintro e w' ⟨rfl, rfl⟩)
    go_ret
    rw [ht1.out, ht2.out]
    exact ⟨rfl, HR.out.set0 _, grownBy_trans hg1 (grownBy_set _ _ _ _)⟩
  · obtain ⟨rfl, rfl⟩ := herr h0
    have ht : rText l = ([], e0, []) := by rw [hT]; simp [h0]
    rw [ht]
    have hn : (e0 != 0) = true := by rw [bne_iff_ne]; exact h0
    clear hT ht herr
    go_enter Tryd.func45, Tryd.ntmps45
    go_wp2_with (go_at_call 44; refine HC.out.mono ?_)
    rintro e w1 ⟨rfl, hr1, hg1⟩
    have HR := Lib.hid hr1
    clear hr1
    go_wp2_with (go_at_call 31; refine (err_any g [] e0 _ HR.out).mono ?_; rintro e w' ⟨rfl, rfl⟩)
    go_ret
    exact ⟨rfl, HR.out, hg1⟩
end Go.Proofs.YtokkkjgdfnkjoaaDoor
