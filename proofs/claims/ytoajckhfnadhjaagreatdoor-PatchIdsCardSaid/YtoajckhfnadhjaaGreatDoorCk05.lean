/- package code's Reader: Num, count and Text. code's closure that lays parts behind a text; Text and List. code.List answers a list's bytes; new blocks alone are made. package code's Reader: List. Ids handed back out of a variable. Package ident's Right. -/
import Derived.Test.YtoajckhfnadhjaaGreatDoorCk04
namespace Go.Proofs.YtoajckhfnadhjaaGreatDoor
open Go.RowKit
set_option linter.unusedVariables false

theorem ends_none (l : List UInt8) (w : World) (hl : l.length ≤ 9223372036854775807) (h : numEnd l = none) :
    Calls Tryz.prog 123 #[.string ⟨l.toArray⟩] w fun e w' => e = .returned (.int .i64 (-1)) ∧ w = w' := by
  have := numberEnd_any ⟨l.toArray⟩ w (by rw [size_of_mk]; exact hl)
  rw [show (⟨l.toArray⟩ : ByteArray).data.toList = l from by simp, h] at this
  exact this
theorem ends_some (l : List UInt8) (k : Nat) (w : World) (hl : l.length ≤ 9223372036854775807) (h : numEnd l = some k) :
    Calls Tryz.prog 123 #[.string ⟨l.toArray⟩] w fun e w' => e = .returned (.int .i64 (k : Int)) ∧ w = w' := by
  have := numberEnd_any ⟨l.toArray⟩ w (by rw [size_of_mk]; exact hl)
  rw [show (⟨l.toArray⟩ : ByteArray).data.toList = l from by simp, h] at this
  exact this
theorem extract_take (l : List UInt8) (k : Nat) : ((⟨l.toArray⟩ : ByteArray).extract 0 k) = ⟨(l.take k).toArray⟩ := by
  apply ByteArray.ext
  simp
theorem extract_drop (l : List UInt8) (k : Nat) : ((⟨l.toArray⟩ : ByteArray).extract k l.length) = ⟨(l.drop k).toArray⟩ := by
  apply ByteArray.ext
  simp
  exact List.take_of_length_le (by simp)
theorem number_take (l : List UInt8) (k : Nat) (w : World) (hl : l.length ≤ 9223372036854775807) :
    Calls Tryz.prog 124 #[.string ((⟨l.toArray⟩ : ByteArray).extract 0 k)] w fun e w' => e = .returned (pair (numVal (l.take k))) ∧ w = w' := by
  rw [extract_take]
  have := number_any ⟨(l.take k).toArray⟩ w (by rw [size_of_mk, List.length_take]; omega)
  rw [show (⟨(l.take k).toArray⟩ : ByteArray).data.toList = l.take k from by simp] at this
  exact this
theorem number_none (l : List UInt8) (k : Nat) (w : World) (hl : l.length ≤ 9223372036854775807) (h : numVal (l.take k) = none) :
    Calls Tryz.prog 124 #[.string ((⟨l.toArray⟩ : ByteArray).extract 0 k)] w fun e w' => e = .returned (.tuple #[.int .u64 0, .bool false]) ∧ w = w' := by
  have := number_take l k w hl
  rw [h] at this
  exact this
theorem number_some (l : List UInt8) (k n : Nat) (w : World) (hl : l.length ≤ 9223372036854775807) (h : numVal (l.take k) = some n) :
    Calls Tryz.prog 124 #[.string ((⟨l.toArray⟩ : ByteArray).extract 0 k)] w fun e w' => e = .returned (.tuple #[.int .u64 (n : Int), .bool true]) ∧ w = w' := by
  have := number_take l k w hl
  rw [h] at this
  exact this

set_option maxRecDepth 100000 in
theorem rnum_bad (g : Nat) (l : List UInt8) (e0 : Int) (w : World) (h : Rd w g l e0) (h0 : e0 ≠ 0) :
    Calls Tryz.prog 100 #[.pointer (some ⟨g, 0, none⟩)] w fun e w' => e = .returned (.int .u64 0) ∧ w = w' := by
  have hn : (e0 != 0) = true := by rw [bne_iff_ne]; exact h0
  have H := Lib.hid h
  clear h
  go_enter Tryz.func100, Tryz.ntmps100
  go_wp2_with (go_at_call 43; refine (err_any g l e0 _ H.out).mono ?_; rintro e w' ⟨rfl, rfl⟩)
  go_ret
  exact ⟨rfl, rfl⟩

set_option maxRecDepth 100000 in
theorem rnum_ok (g : Nat) (l : List UInt8) (w : World) (h : Rd w g l 0) (hl : l.length ≤ 9223372036854775807) :
    Calls Tryz.prog 100 #[.pointer (some ⟨g, 0, none⟩)] w fun e w' => e = .returned (.int .u64 ((rNum l).1 : Int)) ∧ Rd w' g (rNum l).2.2 (rNum l).2.1 ∧ w.grownBy w' (some g) := by
  have hc0 := h.c0
  have hf0 := h.f 0
  have H := Lib.hid h
  clear h
  rcases hE : numEnd l with _ | k
  · have hr : rNum l = (0, 5, []) := by unfold rNum; rw [hE]
    rw [hr]
    have HE := Lib.hid (ends_none l w hl hE)
    clear hE hr
    go_enter Tryz.func100, Tryz.ntmps100
    go_wp2_with (first
      | (go_at_call 43; refine (err_any g l 0 _ H.out).mono ?_; rintro e w' ⟨rfl, rfl⟩)
      | (go_at_call 123; refine HE.out.mono ?_; rintro e w' ⟨rfl, rfl⟩)
      | (go_at_call 101; refine (fail_any g l 0 5 _ H.out).mono ?_; rintro e w2 ⟨rfl, hr2, hg2⟩))
    go_ret
    exact ⟨rfl, hr2, hg2⟩
  · obtain ⟨hk1, hk2⟩ := numEnd_pos l k hE
    have HE := Lib.hid (ends_some l k w hl hE)
    rcases hV : numVal (l.take k) with _ | n
    · have hr : rNum l = (0, 6, []) := by unfold rNum; rw [hE]; simp only [hV]
      rw [hr]
      have HN := Lib.hid (number_none l k w hl hV)
      clear hE hr hV
      go_enter Tryz.func100, Tryz.ntmps100
      go_wp2_with (first
        | (go_at_call 43; refine (err_any g l 0 _ H.out).mono ?_; rintro e w' ⟨rfl, rfl⟩)
        | (go_at_call 123; refine HE.out.mono ?_; rintro e w' ⟨rfl, rfl⟩)
        | (go_at_call 124; refine HN.out.mono ?_; rintro e w' ⟨rfl, rfl⟩)
        | (go_at_call 101; refine (fail_any g l 0 6 _ H.out).mono ?_; rintro e w2 ⟨rfl, hr2, hg2⟩))
      go_ret
      exact ⟨rfl, hr2, hg2⟩
    · have hr : rNum l = (n, 0, l.drop k) := by unfold rNum; rw [hE]; simp only [hV]
      rw [hr]
      have HN := Lib.hid (number_some l k n w hl hV)
      have hx := Lib.hid (extract_drop l k)
      clear hE hr hV
      go_enter Tryz.func100, Tryz.ntmps100
      go_wp2_with (first
        | (go_at_call 43; refine (err_any g l 0 _ H.out).mono ?_; rintro e w' ⟨rfl, rfl⟩)
        | (go_at_call 123; refine HE.out.mono ?_; rintro e w' ⟨rfl, rfl⟩)
        | (go_at_call 124; refine HN.out.mono ?_; rintro e w' ⟨rfl, rfl⟩))
      go_ret
      rw [hx.out]
      exact ⟨rfl, H.out.set0 _, grownBy_set _ _ _ _⟩

set_option maxRecDepth 100000 in
theorem count_bad (g : Nat) (l : List UInt8) (e0 : Int) (w : World) (h : Rd w g l e0) (h0 : e0 ≠ 0) (hl : l.length ≤ 9223372036854775807) :
    Calls Tryz.prog 72 #[.pointer (some ⟨g, 0, none⟩)] w fun e w' => e = .returned (.int .i64 0) ∧ w = w' := by
  have H := Lib.hid h
  clear h
  go_enter Tryz.func72, Tryz.ntmps72
  go_wp2_with (first
    | (go_at_call 100; refine (rnum_bad g l e0 _ H.out h0).mono ?_; rintro e w' ⟨rfl, rfl⟩)
    | (go_at_call 45; refine (left_any g l e0 _ H.out).mono ?_; rintro e w' ⟨rfl, rfl⟩))
  go_ret
  exact ⟨rfl, rfl⟩

set_option maxRecDepth 100000 in
theorem count_ok (g : Nat) (l : List UInt8) (w : World) (h : Rd w g l 0) (hl : l.length ≤ 9223372036854775807) :
    Calls Tryz.prog 72 #[.pointer (some ⟨g, 0, none⟩)] w fun e w' => e = .returned (.int .i64 ((rCount l).1 : Int)) ∧ Rd w' g (rCount l).2.2 (rCount l).2.1 ∧ w.grownBy w' (some g) := by
  have HN := Lib.hid (rnum_ok g l w h hl)
  have hlen := rNum_len l
  have herr := rNum_err l
  rcases hR : rNum l with ⟨n, e0, r⟩
  rw [hR] at HN hlen herr
  simp only at HN hlen herr
  have hC : rCount l = if e0 ≠ 0 then (0, e0, []) else if r.length < n then (0, 5, []) else (n, 0, r) := by
    unfold rCount
    rw [hR]
    by_cases h0 : e0 = 0
    · subst h0; rfl
    · simp [h0]
  clear hR
  by_cases h0 : e0 = 0
  · subst h0
    by_cases hn : r.length < n
    · have hc2 : rCount l = (0, 5, []) := by rw [hC]; simp [hn]
      rw [hc2]
      clear hC hc2 herr h
      go_enter Tryz.func72, Tryz.ntmps72
      go_wp2_with (go_at_call 100; refine HN.out.mono ?_)
      rintro e w1 ⟨rfl, hr1, hg1⟩
      have HR := Lib.hid hr1
      clear hr1
      go_wp2_with (first
        | (go_at_call 45; refine (left_any g r 0 _ HR.out).mono ?_; rintro e w' ⟨rfl, rfl⟩)
        | (go_at_call 101; refine (fail_any g r 0 5 _ HR.out).mono ?_; rintro e w2 ⟨rfl, hr2, hg2⟩))
      go_ret
      exact ⟨rfl, hr2, grownBy_trans hg1 hg2⟩
    · have hc2 : rCount l = (n, 0, r) := by rw [hC]; simp [hn]
      rw [hc2]
      clear hC hc2 herr h
      go_enter Tryz.func72, Tryz.ntmps72
      go_wp2_with (go_at_call 100; refine HN.out.mono ?_)
      rintro e w1 ⟨rfl, hr1, hg1⟩
      have HR := Lib.hid hr1
      clear hr1
      go_wp2_with (go_at_call 45; refine (left_any g r 0 _ HR.out).mono ?_; rintro e w' ⟨rfl, rfl⟩)
      go_ret
      exact ⟨rfl, HR.out, hg1⟩
  · obtain ⟨rfl, rfl⟩ := herr h0
    have hc2 : rCount l = (0, e0, []) := by rw [hC]; simp [h0]
    rw [hc2]
    clear hC hc2 herr h
    go_enter Tryz.func72, Tryz.ntmps72
    go_wp2_with (go_at_call 100; refine HN.out.mono ?_)
    rintro e w1 ⟨rfl, hr1, hg1⟩
    have HR := Lib.hid hr1
    clear hr1
    go_wp2_with (go_at_call 45; refine (left_any g [] e0 _ HR.out).mono ?_; rintro e w' ⟨rfl, rfl⟩)
    go_ret
    exact ⟨rfl, HR.out, hg1⟩

set_option maxRecDepth 100000 in
theorem rtext_bad (g : Nat) (l : List UInt8) (e0 : Int) (w : World) (h : Rd w g l e0) (h0 : e0 ≠ 0) (hl : l.length ≤ 9223372036854775807) :
    Calls Tryz.prog 41 #[.pointer (some ⟨g, 0, none⟩)] w fun e w' => e = .returned (.string ⟨#[]⟩) ∧ w = w' := by
  have hn : (e0 != 0) = true := by rw [bne_iff_ne]; exact h0
  have H := Lib.hid h
  clear h
  go_enter Tryz.func41, Tryz.ntmps41
  go_wp2_with (first
    | (go_at_call 72; refine (count_bad g l e0 _ H.out h0 hl).mono ?_; rintro e w' ⟨rfl, rfl⟩)
    | (go_at_call 43; refine (err_any g l e0 _ H.out).mono ?_; rintro e w' ⟨rfl, rfl⟩))
  go_ret
  exact ⟨rfl, rfl⟩

set_option maxRecDepth 100000 in
theorem rtext_ok (g : Nat) (l : List UInt8) (w : World) (h : Rd w g l 0) (hl : l.length ≤ 9223372036854775807) :
    Calls Tryz.prog 41 #[.pointer (some ⟨g, 0, none⟩)] w fun e w' => e = .returned (.string ⟨(rText l).1.toArray⟩) ∧ Rd w' g (rText l).2.2 (rText l).2.1 ∧ w.grownBy w' (some g) := by
  have HC := Lib.hid (count_ok g l w h hl)
  have hlen := rCount_len l
  have hle := rCount_le l
  rcases hR : rCount l with ⟨n, e0, r⟩
  rw [hR] at HC hlen hle
  simp only at HC hlen hle
  have hT : rText l = if e0 ≠ 0 then ([], e0, []) else (r.take n, 0, r.drop n) := by unfold rText; rw [hR]
  have herr := rCount_err l
  rw [hR] at herr
  simp only at herr
  clear hR h
  by_cases h0 : e0 = 0
  · subst h0
    have ht : rText l = (r.take n, 0, r.drop n) := by rw [hT]; simp
    rw [ht]
    have ht1 := Lib.hid (extract_take r n)
    have ht2 := Lib.hid (extract_drop r n)
    clear hT ht herr
    go_enter Tryz.func41, Tryz.ntmps41
    go_wp2_with (go_at_call 72; refine HC.out.mono ?_)
    rintro e w1 ⟨rfl, hr1, hg1⟩
    have hc0 := hr1.c0
    have hf0 := hr1.f 0
    have HR := Lib.hid hr1
    clear hr1
    go_wp2_with (go_at_call 43; refine (err_any g r 0 _ HR.out).mono ?_; rintro e w' ⟨rfl, rfl⟩)
    go_ret
    rw [ht1.out, ht2.out]
    exact ⟨rfl, HR.out.set0 _, grownBy_trans hg1 (grownBy_set _ _ _ _)⟩
  · obtain ⟨rfl, rfl⟩ := herr h0
    have ht : rText l = ([], e0, []) := by rw [hT]; simp [h0]
    rw [ht]
    have hn : (e0 != 0) = true := by rw [bne_iff_ne]; exact h0
    clear hT ht herr
    go_enter Tryz.func41, Tryz.ntmps41
    go_wp2_with (go_at_call 72; refine HC.out.mono ?_)
    rintro e w1 ⟨rfl, hr1, hg1⟩
    have HR := Lib.hid hr1
    clear hr1
    go_wp2_with (go_at_call 43; refine (err_any g [] e0 _ HR.out).mono ?_; rintro e w' ⟨rfl, rfl⟩)
    go_ret
    exact ⟨rfl, HR.out, hg1⟩
end Go.Proofs.YtoajckhfnadhjaaGreatDoor
namespace Go.Proofs.YtoajckhfnadhjaaGreatDoor
open Go.RowKit
set_option linter.unusedVariables false

theorem size_mk (l : List UInt8) : (⟨l.toArray⟩ : ByteArray).size = l.length := by simp [ByteArray.size]
/-- What a builder at b of the call's own holds. -/
def Holds (B b : Nat) (l : List UInt8) (w : World) : Prop := Lib.IsBuilderF 102 5 B b (Lib.byteCells l) w
theorem Holds.below {B b : Nat} {l : List UInt8} {w w' : World} (h : Holds B b l w) (hb : Below w.heap.size w w') : Holds B b l w' := builder_below h hb

theorem write_holds (B b : Nat) (l : List UInt8) (s : ByteArray) (w : World) (h : Holds B b l w) (hlen : l.length + s.size ≤ 140737488355328) (hBw : B ≤ w.heap.size) :
    Calls Tryz.prog 86 #[.pointer (some ⟨b, 0, none⟩), .string s] w fun e w' => e = .returned (.tuple #[.int .i64 s.size, .nilIface]) ∧
      (Holds B b (l ++ s.data.toList) w' ∧ Below B w w' ∧ Lib.OthersKept 5 (some b) w w') := by
  refine (write_any B b _ s w h (by rw [Lib.byteCells_length]; exact hlen) hBw).mono ?_
  rintro e w' ⟨he, h1, h2, h3⟩
  exact ⟨he, by unfold Holds; rw [Lib.byteCells_append, ← Lib.strCells_eq]; exact h1, h2, h3⟩

set_option maxRecDepth 100000 in
theorem lay_any (B b : Nat) (l : List UInt8) (A : Option Addr) (ss : List ByteArray) (cap : Nat) (w : World) (h : Holds B b l w) (hs : StrRow w A ss)
    (hsum : l.length + (flat ss).length ≤ 140737488355328) (hn : ss.length ≤ 140737488355328) (hB : B ≤ w.heap.size) :
    Calls Tryz.prog 87 #[.slice A ss.length cap, .pointer (some ⟨b, 0, none⟩)] w fun e w' => e = .returned (.string ⟨(l ++ flat ss).toArray⟩) ∧
      Holds B b (l ++ flat ss) w' ∧ Below B w w' ∧ Lib.OthersKept 5 (some b) w w' := by
  go_enter Tryz.func87, Tryz.ntmps87
  go_wp2
  go_loopw [8] (fun i wr => ∃ k : Nat, k ≤ ss.length ∧ i = .int .i64 (k : Int) ∧ Hid (Holds B b (l ++ flat (ss.take k)) wr) ∧ StrRow wr A ss ∧ Below B w wr ∧ Lib.OthersKept 5 (some b) w wr)
    (fun i _ => ss.length - (intOf i).toNat)
  case atStart => exact ⟨0, Nat.zero_le _, rfl, show Holds B b _ w by simpa [flat] using h, hs, Below.refl _ _, Lib.OthersKept.refl _ _ _⟩
  case round =>
    obtain ⟨k, hk, rfl, hh, hr, hb, ho⟩ := hrel
    have hle := flat_take_le ss k
    clear h hs
    by_cases hlt : k < ss.length
    · have hsz := hb.size
      obtain ⟨g, off, rfl, hc⟩ := hr.at_ hlt
      have hf := flat_take ss k hlt
      have hfl : (l ++ flat (ss.take k)).length + ss[k].size ≤ 140737488355328 := by
        have h2 := flat_take_le ss (k + 1)
        have e : ss[k].data.toList.length = ss[k].size := by simp
        rw [hf, List.length_append] at h2
        rw [List.length_append]
        omega
      have HF := Lib.hid hf
      clear hf hle
      generalize hs : ss[k] = s at *
      go_wp2_with (go_at_call 86; refine (write_holds B b _ s _ hh.out hfl (by omega)).mono ?_; rintro e w1 ⟨rfl, hh1, hb1, ho1⟩)
      obtain ⟨cs, fr, hbk⟩ := builder_block hh.out
      have hr1 := hr.kept ho1 hbk (by decide)
      have hh2 : Hid (Holds B b (l ++ flat (ss.take (k + 1))) w1) := by
        show Holds _ _ _ _
        rw [HF.out, ← List.append_assoc]; exact hh1
      clear hh hh1 hr hbk
      go_roundw
      case rel => exact ⟨k + 1, by omega, by go_num, hh2, hr1, hb.trans hb1, ho.trans ho1⟩
      case measure => simp [intOf]; omega
    · have hk2 : k = ss.length := by omega
      subst hk2
      have hsz := hb.size
      rw [flat_all ss _ (Nat.le_refl _)] at hh
      go_wp2_with (go_at_call 88; refine (string_any B b _ _ hh.out (by omega)).mono ?_; rintro e w1 ⟨rfl, hh1, hb1, ho1⟩)
      go_ret
      exact ⟨rfl, hh1, hb.trans hb1, ho.trans ho1⟩
theorem size_any (n : Int) (w : World) (h0 : 0 ≤ n) (h1 : n ≤ 9223372036854775807) :
    Calls Tryz.prog 59 #[.int .i64 n] w fun e w' => e = .returned (.string ⟨(numB n.toNat).toArray⟩) ∧ Below w.heap.size w w' := by
  go_enter Tryz.func59, Tryz.ntmps59
  go_wp2_with (go_at_call 84; refine (num_any _ _ h0 (by omega)).mono ?_; rintro e w1 ⟨rfl, hb⟩)
  go_ret
  exact ⟨rfl, hb⟩

/-- A new builder holds nothing. -/
theorem holds_new (w : World) : Holds w.heap.size w.heap.size [] (w.alloc (.cells #[.pointer none, .slice none 0 0] 102)) :=
  .inl ⟨Nat.le_refl _, .slice none 0 0, heap_alloc_new w _, World.ownsRowF_nil _ _ _ _, by simp [Value.ownBlock]⟩

set_option maxRecDepth 100000 in
theorem layer_any (s : ByteArray) (w : World) (hs : s.size ≤ 140737488355328) :
    Calls Tryz.prog 58 #[.string s] w fun e w' => e = .returned (.func (Fn.func 87) #[] #[.pointer (some ⟨w.heap.size, 0, none⟩)]) ∧ Holds w.heap.size w.heap.size s.data.toList w' ∧ Below w.heap.size w w' := by
  have hh := holds_new w
  have HH := Lib.hid hh
  clear hh
  go_enter Tryz.func58, Tryz.ntmps58
  go_wp2_with (go_at_call 86; refine (write_holds _ _ _ s _ HH.out (by simpa using hs) (by simp)).mono ?_; rintro e w1 ⟨rfl, hh1, hb1, ho1⟩)
  go_ret
  exact ⟨rfl, by simpa using hh1, ((Below.refl _ w).alloc (Nat.le_refl _) _).trans hb1⟩

/-- Two strings in a new row. -/
theorem strRow_new1 (w : World) (a : ByteArray) : StrRow (w.alloc (.cells #[.string a] 9)) (some ⟨w.heap.size, 0, none⟩) [a] := fun _ =>
  ⟨_, _, _, _, rfl, heap_alloc_new w _, fun j hj => by
    obtain rfl : j = 0 := by simp at hj; omega
    simp⟩
theorem strRow_new2 (w : World) (a b : ByteArray) : StrRow (w.alloc (.cells #[.string a, .string b] 9)) (some ⟨w.heap.size, 0, none⟩) [a, b] := fun _ =>
  ⟨_, _, _, _, rfl, heap_alloc_new w _, fun j hj => by
    match j, hj with
    | 0, _ => rfl
    | 1, _ => rfl
    | k + 2, h => simp at h; omega⟩

end Go.Proofs.YtoajckhfnadhjaaGreatDoor
namespace Go.Proofs.YtoajckhfnadhjaaGreatDoor
open Go.RowKit
set_option linter.unusedVariables false

theorem lists_take (ss : List ByteArray) (k : Nat) (h : k < ss.length) : textsB (lists (ss.take (k + 1))) = textsB (lists (ss.take k)) ++ textB ss[k].data.toList := by
  rw [List.take_succ_eq_append_getElem h]
  unfold lists
  rw [List.map_append]
  exact textsB_snoc _ _
theorem texts_take_le (ss : List ByteArray) (k : Nat) : (textsB (lists (ss.take k))).length ≤ (textsB (lists ss)).length := by
  have h : textsB (lists ss) = textsB (lists (ss.take k)) ++ textsB (lists (ss.drop k)) := by
    rw [← textsB_append]; unfold lists; rw [← List.map_append, List.take_append_drop]
  rw [h]; simp

set_option maxRecDepth 100000 in
theorem list_any (A : Option Addr) (ss : List ByteArray) (cap : Nat) (w : World) (hs : Strs w w.heap.size A ss) (hn : ss.length ≤ 140737488351232)
    (hlen : (numB ss.length).length + (textsB (lists ss)).length ≤ 140737488351232) :
    Calls Tryz.prog 25 #[.slice A ss.length cap] w fun e w' => e = .returned (.string ⟨(listB (lists ss)).toArray⟩) ∧ Below w.heap.size w w' := by
  go_enter Tryz.func25, Tryz.ntmps25
  go_wp2_with (go_at_call 59; refine (size_any _ _ (by omega) (by omega)).mono ?_; rintro e w1 ⟨rfl, hb1⟩)
  refine (layer_any ⟨(numB ss.length).toArray⟩ _ (by rw [size_mk]; omega)).mono ?_
  rintro e w2 ⟨rfl, hh, hb2⟩
  have hsz1 := hb1.size
  have hsz2 := hb2.size
  have hb := hb1.trans (hb2.mono hsz1)
  have hh2 : Hid (Holds w1.heap.size w1.heap.size (numB ss.length) w2) := hh
  clear hh hb2
  have hsB : w.heap.size ≤ w1.heap.size := hsz1
  have hbs0 : Below w.heap.size w w2 := hb
  go_wp2_with fail
  go_loopw [12] (fun i wr => ∃ k : Nat, k ≤ ss.length ∧ i = .int .i64 (k : Int) ∧ Hid (Holds w1.heap.size w1.heap.size (numB ss.length ++ textsB (lists (ss.take k))) wr) ∧ Below w.heap.size w wr ∧ w1.heap.size ≤ wr.heap.size)
    (fun i _ => ss.length - (intOf i).toNat)
  case atStart => exact ⟨0, Nat.zero_le _, rfl, show Holds _ _ _ _ by simpa [lists, textsB] using hh2.out, hb, by omega⟩
  case round =>
    obtain ⟨k, hk, rfl, hh, hb, hsz⟩ := hrel
    have hle := texts_take_le ss k
    clear hh2 hbs0
    by_cases hlt : k < ss.length
    · have hs1 := hs.below hb
      obtain ⟨g, off, rfl, hg, hc⟩ := hs1.at_ hlt
      clear hs1
      have hf := lists_take ss k hlt
      have hle2 := texts_take_le ss (k + 1)
      rw [hf] at hle2
      have HF := Lib.hid hf
      clear hf
      generalize hs' : ss[k] = s at *
      have e : s.data.toList.length = s.size := by simp
      have htb : (textB s.data.toList).length = (numB s.size).length + s.size := by simp [textB]
      rw [List.length_append, htb] at hle2
      clear htb e
      generalize hpre : textsB (lists (ss.take k)) = pre at *
      go_wp2_with (go_at_call 59; refine (size_any _ _ (by omega) (by omega)).mono ?_; rintro e w3 ⟨rfl, hb3⟩)
      have hsz3 := hb3.size
      have hh3 : Hid (Holds w1.heap.size w1.heap.size (numB ss.length ++ pre) (w3.alloc (.cells #[.string ⟨(numB s.size).toArray⟩, .string s] 9))) :=
        hh.out.below (hb3.alloc (by omega) _)
      have hr := strRow_new2 w3 ⟨(numB s.size).toArray⟩ s
      have hlen4 : (numB ss.length ++ pre).length + (flat [⟨(numB s.size).toArray⟩, s]).length ≤ 140737488355328 := by
        simp [flat]; omega
      clear hh
      go_wp2_with (go_at_call 87; refine (lay_any w1.heap.size w1.heap.size (numB ss.length ++ pre) _ [⟨(numB s.size).toArray⟩, s] 2 _ hh3.out hr hlen4 (by simp) (by simp; omega)).mono ?_; rintro e w4 ⟨rfl, hh4, hb4, ho4⟩)
      have hb5 := hb.trans (((hb3.mono (Nat.le_trans hsB hsz)).alloc (by omega) _).trans (hb4.mono hsB))
      have hsz5 : w1.heap.size ≤ w4.heap.size := by have := hb4.size; simp at this; omega
      have hh5 : Hid (Holds w1.heap.size w1.heap.size (numB ss.length ++ textsB (lists (ss.take (k + 1)))) w4) := by
        show Holds _ _ _ _
        rw [HF.out]
        simpa [textB, flat, List.append_assoc] using hh4
      clear hh4 hh3 hr
      go_roundw
      case rel => exact ⟨k + 1, by omega, by go_num, hh5, hb5, hsz5⟩
      case measure => simp [intOf]; omega
    · have hk2 : k = ss.length := by omega
      subst hk2
      have e : ss.take ss.length = ss := List.take_length
      rw [e] at hh
      have hlen4 : (numB ss.length ++ textsB (lists ss)).length + (flat []).length ≤ 140737488355328 := by simp [flat]; omega
      go_wp2_with (go_at_call 87; refine (lay_any w1.heap.size w1.heap.size (numB ss.length ++ textsB (lists ss)) none [] 0 _ hh.out (fun h => absurd h (by simp)) hlen4 (by simp) (by omega)).mono ?_; rintro e w4 ⟨rfl, hh4, hb4, ho4⟩)
      go_ret
      refine ⟨by simp [listB, flat, lists_len], hb.trans (hb4.mono hsB)⟩
end Go.Proofs.YtoajckhfnadhjaaGreatDoor
namespace Go.Proofs.YtoajckhfnadhjaaGreatDoor
open Go.RowKit
set_option linter.unusedVariables false

/-- Strings as cells. -/
def scells (ss : List ByteArray) : List Value := ss.map Value.string
theorem scells_len (ss : List ByteArray) : (scells ss).length = ss.length := by simp [scells]
theorem scells_snoc (ss : List ByteArray) (s : ByteArray) : scells ss ++ [.string s] = scells (ss ++ [s]) := by simp [scells]

/-- A row of strings of the call's own, as strings at an address. -/
theorem strs_own {w : World} {base : Nat} {v : Value} {n : Nat} {ss : List ByteArray} (h : w.ownsRow base 9 1 v n (scells ss)) :
    ∃ A c, v = .slice A ss.length c ∧ Strs w w.heap.size A ss ∧ Room A ss.length c ∧ n = ss.length := by
  have hn : n = ss.length := by have := h.1; rw [scells_len] at this; omega
  subst hn
  have h' := h
  rcases h.2 with ⟨rfl, h0⟩ | ⟨g, cap, cur, rfl, _, hg, hcap, _, hsz, htake⟩
  · have : ss = [] := List.eq_nil_of_length_eq_zero h0
    subst this
    exact ⟨none, 0, rfl, Strs.none_, ⟨fun _ => rfl, Nat.le_refl _⟩, rfl⟩
  · refine ⟨_, cap, rfl, fun hp => ⟨g, 0, rfl, (Array.getElem?_eq_some_iff.1 hg).1, fun j hj => ?_⟩, ⟨(fun e => by cases e), hcap⟩, rfl⟩
    have := h'.cells (g := g) rfl j (.string ss[j]) (by simp [scells, List.getElem?_eq_getElem hj])
    have e : (⟨g, 0, none⟩ : Addr).add j = ⟨g, j, none⟩ := by unfold Addr.add; split <;> simp_all
    rw [Nat.zero_add, ← e]
    exact this

theorem own_ne {w : World} {base e size n g : Nat} {v : Value} {xs : List Value} (h : w.ownsRow base e size v n xs) (hg : g < base) : v.ownBlock ≠ some g := fun he => by
  have := (h.lt g he).1
  omega
theorem grownBy_new {w a b : World} {row row2 : Option Nat} (h : w.grownBy a row) (hg : a.grownBy b row2) (hr : ∀ k, row2 = some k → w.heap.size ≤ k) : w.grownBy b row :=
  ⟨hg.os.trans h.os, hg.tape.trans h.tape, hg.output.trans h.output, Nat.le_trans h.size hg.size, fun i hi hne => (hg.block i (Nat.lt_of_lt_of_le hi h.size) (fun e => by have := hr i e.symm; omega)).trans (h.block i hi hne)⟩
/-- .. of the call's own. -/
def ListOwn (w : World) (g : Nat) (x : List (List UInt8) × Int × List UInt8) (e : Ending) (w' : World) : Prop :=
  ∃ (A : Option Addr) (c : Nat) (ss : List ByteArray), e = .returned (.slice A ss.length c) ∧ lists ss = x.1 ∧ Strs w' w'.heap.size A ss ∧ Room A ss.length c ∧ Rd w' g x.2.2 x.2.1 ∧ w.grownBy w' (some g) ∧ w'.ownsRow w.heap.size 9 1 (.slice A ss.length c) ss.length (scells ss)
theorem listOwn_nil {w w' : World} {g : Nat} {e : Int} (hr : Rd w' g [] e) (hg : w.grownBy w' (some g)) : ListOwn w g ([], e, []) (.returned (.slice none 0 0)) w' :=
  ⟨none, 0, [], rfl, rfl, Strs.none_, ⟨fun _ => rfl, Nat.le_refl _⟩, hr, hg, World.ownsRow_nil _ _ _ _⟩
theorem lists_snoc (ss : List ByteArray) (t : List UInt8) : lists (ss ++ [⟨t.toArray⟩]) = lists ss ++ [t] := by simp [lists]

set_option maxHeartbeats 1000000 in
set_option maxRecDepth 100000 in
theorem rlist_own (g : Nat) (l : List UInt8) (w : World) (h : Rd w g l 0) (hl : l.length ≤ 1000000000000) :
    Calls Tryz.prog 42 #[.pointer (some ⟨g, 0, none⟩)] w (ListOwn w g (rList l)) := by
  obtain ⟨i0, hi, hz0, hz1, hz2⟩ := info_parts info_str
  have HC := Lib.hid (count_ok g l w h (by omega))
  have hg := h.lt
  have hlen := rCount_len l
  have hle := rCount_le l
  rcases hR : rCount l with ⟨n, e0, r⟩
  rw [hR] at HC hlen hle
  simp only at HC hlen hle
  have hT : rList l = if e0 ≠ 0 then ([], e0, []) else rTexts n r := by unfold rList; rw [hR]
  have herr := rCount_err l
  rw [hR] at herr
  simp only at herr
  clear hR h
  by_cases h0 : e0 = 0
  · subst h0
    have ht := Lib.hid (show rList l = preT [] (rTexts n r) by rw [hT, preT_nil]; simp)
    clear hT herr
    go_enter Tryz.func42, Tryz.ntmps42
    go_wp2_with (go_at_call 72; refine HC.out.mono ?_)
    rintro e w1 ⟨rfl, hr1, hg1⟩
    go_wp2
    go_loopw [4, 9] (fun v i wr => ∃ (k : Nat) (ss : List ByteArray) (lr : List UInt8), k ≤ n ∧ i = .int .i64 (k : Int) ∧ ss.length = k ∧ wr.ownsRow w.heap.size 9 1 v ss.length (scells ss) ∧ Hid (Rd wr g lr 0) ∧ w.grownBy wr (some g) ∧
        lr.length ≤ 1000000000000 ∧ Hid (rList l = preT (lists ss) (rTexts (n - k) lr))) (fun _ i _ => n - (intOf i).toNat)
    case atStart => exact ⟨0, [], r, Nat.zero_le _, rfl, rfl, World.ownsRow_nil _ _ _ _, hr1, hg1, by omega, ht.out⟩
    case round =>
      obtain ⟨k, ss, lr, hk, rfl, hss, hown, hrd, hgr, hlr, hv⟩ := hrel
      have HSS := Lib.hid hss
      have hkk : ss.length ≤ k := by omega
      clear hss ht hr1 hg1
      have hsz := hgr.size
      have hne := own_ne hown hg
      by_cases hlt : k < n
      · obtain ⟨m, hm⟩ : ∃ m, n - k = m + 1 := ⟨n - k - 1, by omega⟩
        rw [hm] at hv
        have HM := Lib.hid hm
        clear hm
        have HT := Lib.hid (rtext_ok g lr wr hrd.out (by omega))
        have hbad := preT_bad (lists ss) m lr
        have hstep := preT_step (lists ss) m lr
        have hle2 := rText_len lr
        have herr2 := rText_err lr
        rcases hRT : rText lr with ⟨t, e1, r1⟩
        rw [hRT] at HT hbad hstep hle2 herr2
        simp only at HT hbad hstep hle2 herr2
        clear hRT
        by_cases h1 : e1 = 0
        · subst h1
          have hv2 := Lib.hid (hv.out.trans (hstep rfl))
          clear hbad hstep herr2 hv hrd
          go_wp2_with (first
            | (go_at_call 41; refine HT.out.mono ?_; rintro e w2 ⟨rfl, hr2, hg2⟩; have hc1 := hr2.c1; have HR2 := Lib.hid hr2; clear hr2)
            | (at_builtin; refine wpList_append_own _ rfl _ _ 22 rfl w.heap.size 9 i0 (.string ByteArray.empty) 1 16 Tryz.underlying22 hi hz0 hz1 hz2 rfl (by decide) _ _ _ rfl ((hown.kept hg2 (.inr hne)).alloc _) ⟨w2.heap.size, 0, none⟩ 1 1 [.string ⟨t.toArray⟩] rfl rfl ?c1 ?c2 ?c3 ?c4 ?c5 ?_))
          case c1 => exact cell_one_new _ _ _
          case c2 => intro u hu; simp at hu; subst hu; rfl
          case c3 => unfold maxLen; omega
          case c4 => omega
          case c5 => have := hg2.size; simp; omega
          intro v' w3 hown' hgrow _
          rw [scells_snoc] at hown'
          have hown3 : w3.ownsRow w.heap.size 9 1 v' (ss ++ [(⟨t.toArray⟩ : ByteArray)]).length (scells (ss ++ [⟨t.toArray⟩])) := by simpa using hown'
          have hlt2 := HR2.out.lt
          have hrd3 : Hid (Rd w3 g r1 0) := by
            have h3 : (w2.alloc (.cells #[.string ⟨t.toArray⟩] 9)).heap[g]? = w2.heap[g]? := Below.heap_alloc w2 _ g hlt2
            exact (hgrow.block g (by simp; omega) (fun e => hne e.symm)).trans (h3.trans HR2.out)
          have hgr3 : w.grownBy w3 (some g) :=
            grownBy_new (grownBy_new (grownBy_trans hgr hg2) (World.grownBy_alloc w2 _ none) (fun _ h => by cases h)) hgrow (fun k hk => (hown.lt k hk).1)
          have hm3 : n - (k + 1) = m := by have := HM.out; omega
          have hv3 : Hid (rList l = preT (lists (ss ++ [⟨t.toArray⟩])) (rTexts (n - (k + 1)) r1)) := by
            show _ = _
            rw [hm3, lists_snoc]; exact hv2.out
          have hss3 : (ss ++ [⟨t.toArray⟩] : List ByteArray).length = k + 1 := by have := HSS.out; simp; omega
          have HSS3 := Lib.hid hss3
          clear hss3 hm3 hgrow hown' hown hg2 hgr hv2 HR2
          go_wp2
          go_roundw
          case rel => exact ⟨k + 1, ss ++ [⟨t.toArray⟩], r1, by omega, by go_num, HSS3.out, hown3, hrd3, hgr3, by omega, hv3⟩
          case measure => simp [intOf]; omega
        · have hv2 := Lib.hid (hv.out.trans (hbad h1))
          have hn : (e1 != 0) = true := by rw [bne_iff_ne]; exact h1
          obtain ⟨rfl, rfl⟩ := herr2 h1
          clear hbad hstep herr2 hv hrd
          go_wp2_with (go_at_call 41; refine HT.out.mono ?_; rintro e w2 ⟨rfl, hr2, hg2⟩; have hc1 := hr2.c1; have HR2 := Lib.hid hr2; clear hr2)
          go_ret
          rw [hv2.out]
          exact listOwn_nil HR2.out (grownBy_trans hgr hg2)
      · have hk2 : n - k = 0 := by omega
        rw [hk2, preT_end] at hv
        have hshape := strs_own hown
        obtain ⟨A, c, hv', hs1, hs2, _⟩ := hshape
        have HV := Lib.hid hv'
        have HOWN := Lib.hid hown
        clear hv' hk2 hown
        go_wp2
        go_ret
        rw [hv.out]
        exact ⟨A, c, ss, by rw [HV.out]; rfl, rfl, hs1, hs2, hrd.out, hgr, by have h9 := HOWN.out; rw [HV.out] at h9; exact h9⟩
  · obtain ⟨rfl, rfl⟩ := herr h0
    have ht := Lib.hid (show rList l = ([], e0, []) by rw [hT]; simp [h0])
    rw [ht.out]
    clear ht hT herr
    go_enter Tryz.func42, Tryz.ntmps42
    go_wp2_with (go_at_call 72; refine HC.out.mono ?_)
    rintro e w1 ⟨rfl, hr1, hg1⟩
    have HR := Lib.hid hr1
    clear hr1
    go_wp2
    refine wp_loop_rounds 1 ?_
    rw [rounds_succ]
    go_wp2
    go_ret
    exact listOwn_nil HR.out hg1
set_option maxRecDepth 100000 in
theorem rlist_bad (g : Nat) (l : List UInt8) (e0 : Int) (w : World) (h : Rd w g l e0) (h0 : e0 ≠ 0) (hl : l.length ≤ 9223372036854775807) :
    Calls Tryz.prog 42 #[.pointer (some ⟨g, 0, none⟩)] w fun e w' => e = .returned (.slice none 0 0) ∧ w = w' := by
  have H := Lib.hid h
  clear h
  go_enter Tryz.func42, Tryz.ntmps42
  go_wp2_with (go_at_call 72; refine (count_bad g l e0 _ H.out h0 hl).mono ?_)
  rintro e w1 ⟨rfl, rfl⟩
  go_wp2
  refine wp_loop_rounds 1 ?_
  rw [rounds_succ]
  go_wp2
  go_ret
  exact ⟨rfl, rfl⟩
end Go.Proofs.YtoajckhfnadhjaaGreatDoor
namespace Go.Proofs.YtoajckhfnadhjaaGreatDoor
open Go.RowKit
set_option linter.unusedVariables false

theorem sized_id : (Tryz.prog.info? 40).map (·.size) = some 2 := by kernel_rfl
theorem load_id {w : World} {g : Nat} {x : Im} (k : IdAt w g x) : (loadVar 40 ⟨g, 0, none⟩).run Tryz.prog w = .ok (.agg #[.string x.p, .int .i64 x.n]) w :=
  run_loadVar_row w g 40 40 #[.string x.p, .int .i64 x.n] (0, 0) _ k Tryz.underlying40 rfl sized_id
theorem ret_id {fn : Func} {p : Tmp} (h : fn.results = #[.cell p 40]) (tmps : Array Value) (w : World) (g : Nat) (x : Im) (hp : tmps.getD p undef = .pointer (some ⟨g, 0, none⟩)) (k : IdAt w g x) :
    (results fn tmps).run Tryz.prog w = .ok (.agg #[.string x.p, .int .i64 x.n]) w :=
  results_cell_row h tmps w g 40 #[.string x.p, .int .i64 x.n] (0, 0) _ hp k Tryz.underlying40 rfl sized_id
theorem ret_id2 {fn : Func} {p u : Tmp} (h : fn.results = #[.cell p 40, .tmp u]) (tmps : Array Value) (w : World) (g : Nat) (x : Im) (v : Value) (hp : tmps.getD p undef = .pointer (some ⟨g, 0, none⟩)) (hv : tmps.getD u undef = v) (k : IdAt w g x) :
    (results fn tmps).run Tryz.prog w = .ok (.tuple #[.agg #[.string x.p, .int .i64 x.n], v]) w := by
  rw [results_cell_tmp h, hp, hv]
  simp [asAddr, load_id k, Result.andThen]
/-- A variable of an id written over, cell by cell. -/
theorem id_set {w : World} {g : Nat} {x : Im} (k : IdAt w g x) (p : ByteArray) (n : Int) : IdAt ((w.setCell ⟨g, 0, none⟩ (.string p)).setCell ⟨g, 1, none⟩ (.int .i64 n)) g ⟨p, n⟩ := Rk.At.put k (⟨p, n⟩ : Im)
theorem id_grown (w : World) (g : Nat) (p : ByteArray) (n : Int) : w.grownBy ((w.setCell ⟨g, 0, none⟩ (.string p)).setCell ⟨g, 1, none⟩ (.int .i64 n)) (some g) := Rk.setCells_grown w g 0 [.string p, .int .i64 n]
theorem id_below {w0 w : World} {B g : Nat} (p : ByteArray) (n : Int) (h : Below B w0 w) (hg : B ≤ g) (hB : B ≤ w.heap.size) : Below B w0 ((w.setCell ⟨g, 0, none⟩ (.string p)).setCell ⟨g, 1, none⟩ (.int .i64 n)) :=
  h.grown (id_grown w g p n) hB fun k hk => by simp only [Option.some.injEq] at hk; omega
end Go.Proofs.YtoajckhfnadhjaaGreatDoor
namespace Go.Proofs.YtoajckhfnadhjaaGreatDoor
open Go.RowKit
set_option linter.unusedVariables false

set_option maxHeartbeats 2000000 in
set_option maxRecDepth 100000 in
theorem idright_any (x : Im) (w : World) (ox : x.p.size ≤ 9223372036854775807) :
    Calls Tryz.prog 112 #[x.val] w fun e w' => e = .returned (.bool (okK x.key)) ∧ Below w.heap.size w w' := by
  obtain ⟨hb, hx⟩ := id_box w x
  unfold Im.val
  have HB := Lib.hid hb
  have HX := Lib.hid hx
  have CR := Lib.hid (fun w => right_any x.p w ox)
  have hk : Hid (okK x.key = if x.p = ⟨#[]⟩ then decide (0 ≤ x.n ∧ x.n ≤ 2) else rightB x.p && decide (0 ≤ x.n ∧ x.n ≤ 1048576)) := by
    show _ = _
    unfold okK okI Im.key
    simp only [toB_of]
    by_cases h : x.p = ⟨#[]⟩
    · rw [if_pos h, if_pos (by rw [h])]
    · rw [if_neg h, if_neg fun e => h (bytes_inj (by rw [e]))]
  rw [hk.out]
  clear hb hx hk
  obtain ⟨p, n⟩ := x
  simp only at *
  by_cases h : p = ⟨#[]⟩
  · subst h
    rw [if_pos rfl]
    have c0 := id_c0 HX.out
    have c1 := id_c1 HX.out
    by_cases h1 : 0 ≤ n
    · by_cases h2 : n ≤ 2
      · have hv : decide (0 ≤ n ∧ n ≤ 2) = true := decide_eq_true ⟨h1, h2⟩
        rw [hv]
        have h3 : n ≥ 0 := h1
        go_enter Tryz.func112, Tryz.ntmps112
        go_wp2
        go_ret
        exact ⟨rfl, HB.out⟩
      · have hv : decide (0 ≤ n ∧ n ≤ 2) = false := decide_eq_false fun h => h2 h.2
        rw [hv]
        have h3 : n ≥ 0 := h1
        go_enter Tryz.func112, Tryz.ntmps112
        go_wp2
        go_ret
        exact ⟨rfl, HB.out⟩
    · have hv : decide (0 ≤ n ∧ n ≤ 2) = false := decide_eq_false fun h => h1 h.1
      rw [hv]
      have h3 : ¬ n ≥ 0 := h1
      go_enter Tryz.func112, Tryz.ntmps112
      go_wp2
      go_ret
      exact ⟨rfl, HB.out⟩
  · rw [if_neg h]
    have h0 := str_ne_empty h
    clear h
    obtain ⟨b, hbr⟩ : ∃ b, rightB p = b := ⟨_, rfl⟩
    obtain ⟨r, hr⟩ : ∃ r, (rightB p && decide (0 ≤ n ∧ n ≤ 1048576)) = r := ⟨_, rfl⟩
    have HRES : Hid ((b = false → r = false) ∧ (b = true → r = decide (0 ≤ n ∧ n ≤ 1048576))) := by
      rw [← hr, hbr]
      exact ⟨fun e => by rw [e]; rfl, fun e => by rw [e]; rfl⟩
    rw [hr]
    rw [hbr] at CR
    clear hbr hr
    go_enter Tryz.func112, Tryz.ntmps112
    have c0 := id_c0 HX.out
    have c1 := id_c1 HX.out
    go_wp2_with fail
    generalize (w.alloc (.cells #[.string p, .int .i64 n] 40)) = wb at *
    refine (CR.out _).mono ?_
    rintro e w1 ⟨rfl, hb⟩
    have HF := Lib.hid (HB.out.trans (hb.mono HB.out.size))
    have hx1 := HX.out.on hb
    have d0 := id_c0 hx1
    have d1 := id_c1 hx1
    clear hb c0 c1 hx1 CR
    cases b
    · have hrr : Hid (r = false) := HRES.out.1 rfl
      clear HRES
      go_wp2
      go_ret
      rw [hrr.out]
      exact ⟨rfl, HF.out⟩
    · have hrr : Hid (r = decide (0 ≤ n ∧ n ≤ 1048576)) := HRES.out.2 rfl
      clear HRES
      by_cases h1 : 0 ≤ n
      · have h3 : n ≥ 0 := h1
        by_cases h2 : n ≤ 1048576
        · have hv : Hid (r = true) := hrr.out.trans (decide_eq_true ⟨h1, h2⟩)
          clear hrr
          go_wp2
          go_ret
          rw [hv.out]
          exact ⟨rfl, HF.out⟩
        · have hv : Hid (decide (n ≤ 1048576) = r) := (decide_eq_false h2).trans (hrr.out.trans (decide_eq_false fun h => h2 h.2)).symm
          clear hrr
          go_wp2
          go_ret
          rw [← hv.out]
          exact ⟨rfl, HF.out⟩
      · have hv : Hid (r = false) := hrr.out.trans (decide_eq_false fun h => h1 h.1)
        have h3 : ¬ n ≥ 0 := h1
        clear hrr
        go_wp2
        go_ret
        rw [hv.out]
        exact ⟨rfl, HF.out⟩
end Go.Proofs.YtoajckhfnadhjaaGreatDoor
