/- The statement's awake answers true; new blocks alone are made. -/
import Derived.Test.YticcnfibfdcmeaaCodeReader3
import Derived.Test.YticcnfibfdcmeaaRefSame
namespace Go.Proofs.Yticcnfibfdcmeaa
open Go.RowKit
set_option linter.unusedVariables false

theorem StrRow.strs {w : World} {A : Option Addr} {ss : List ByteArray} (h : StrRow w A ss) : Strs w w.heap.size A ss := fun hp => by
  obtain ⟨b, off, cur, fz, e, hb, hc⟩ := h hp
  exact ⟨b, off, e, (Array.getElem?_eq_some_iff.1 hb).1, fun j hj => by rw [cell_of_row w b (off + j) cur _ fz hb]; exact hc j hj⟩
theorem bytes_app (a b : List UInt8) : (⟨a.toArray⟩ ++ ⟨b.toArray⟩ : ByteArray) = ⟨(a ++ b).toArray⟩ := by
  apply ByteArray.ext
  simp
theorem lists_inj {ss tt : List ByteArray} (h : lists ss = lists tt) : ss = tt := by
  have hf : ∀ a b : ByteArray, a.data.toList = b.data.toList → a = b := fun a b h => ByteArray.ext (Array.ext' h)
  unfold lists at h
  induction ss generalizing tt with
  | nil => cases tt with | nil => rfl | cons b tt => simp at h
  | cons a ss ih => cases tt with
    | nil => simp at h
    | cons b tt =>
      simp only [List.map_cons, List.cons.injEq] at h
      rw [hf a b h.1, ih h.2]

theorem num300 (w : World) : Calls Try.prog 7 #[.int .u64 300] w fun e w' => e = .returned (.string ⟨#[172, 2]⟩) ∧ Below w.heap.size w w' :=
  num_any 300 w (by omega) (by omega)
theorem text_ab (w : World) : Calls Try.prog 8 #[.string ⟨#[97, 98]⟩] w fun e w' => e = .returned (.string ⟨#[2, 97, 98]⟩) ∧ Below w.heap.size w w' :=
  text_any ⟨#[97, 98]⟩ w (by decide)
theorem list_x (w : World) : Calls Try.prog 9 #[.slice (some ⟨w.heap.size, 0, none⟩) 2 2] (w.alloc (.cells #[.string ⟨#[120]⟩, .string ⟨#[]⟩] 9)) fun e w' => e = .returned (.string ⟨#[2, 1, 120, 0]⟩) ∧ Below w.heap.size w w' := by
  have h := list_any (some ⟨w.heap.size, 0, none⟩) [⟨#[120]⟩, ⟨#[]⟩] 2 (w.alloc (.cells #[.string ⟨#[120]⟩, .string ⟨#[]⟩] 9)) (strRow_new2 w _ _).strs (by decide) (by decide)
  refine h.mono ?_
  rintro e w' ⟨rfl, hb⟩
  exact ⟨rfl, ((Below.refl _ w).alloc (Nat.le_refl _) _).trans (hb.mono (by simp))⟩

theorem ask_num (g : Nat) (w : World) (h : Rd w g [172, 2, 2, 97, 98, 2, 1, 120, 0] 0) :
    Calls Try.prog 11 #[.pointer (some ⟨g, 0, none⟩)] w fun e w' => e = .returned (.int .u64 300) ∧ Rd w' g [2, 97, 98, 2, 1, 120, 0] 0 ∧ w.grownBy w' (some g) :=
  rnum_ok g _ w h (by decide)
theorem ask_text (g : Nat) (w : World) (h : Rd w g [2, 97, 98, 2, 1, 120, 0] 0) :
    Calls Try.prog 12 #[.pointer (some ⟨g, 0, none⟩)] w fun e w' => e = .returned (.string ⟨#[97, 98]⟩) ∧ Rd w' g [2, 1, 120, 0] 0 ∧ w.grownBy w' (some g) :=
  rtext_ok g _ w h (by decide)
theorem ask_list (g : Nat) (w : World) (h : Rd w g [2, 1, 120, 0] 0) :
    Calls Try.prog 13 #[.pointer (some ⟨g, 0, none⟩)] w fun e w' => ∃ (b off : Nat) (c : Nat), e = .returned (.slice (some ⟨b, off, none⟩) 2 c) ∧ (b < w'.heap.size ∧ w'.cell? ⟨b, off, none⟩ = some (.string ⟨#[120]⟩)) ∧ Rd w' g [] 0 ∧ w.grownBy w' (some g) := by
  refine (rlist_ok g _ w h (by decide)).mono ?_
  rintro e w' ⟨A, c, ss, rfl, hl, hs, _, hr, hg⟩
  have hl2 : lists ss = lists [⟨#[120]⟩, ⟨#[]⟩] := hl
  obtain rfl := lists_inj hl2
  obtain ⟨b, off, rfl, hb, hc⟩ := hs (by decide)
  exact ⟨b, off, c, rfl, ⟨hb, hc 0 (by decide)⟩, hr, hg⟩

set_option maxRecDepth 100000 in
theorem awake_any (w : World) : Calls Try.prog 6 #[] w fun e w' => e = .returned (.bool true) ∧ Below w.heap.size w w' := by
  go_enter Try.func6, Try.ntmps6
  go_wp2_with fail
  refine (num300 _).mono ?_
  rintro e w1 ⟨rfl, hb1⟩
  go_wp2_with fail
  refine (text_ab _).mono ?_
  rintro e w2 ⟨rfl, hb2⟩
  go_wp2_with fail
  refine (list_x _).mono ?_
  rintro e w3 ⟨rfl, hb3⟩
  go_wp2_with fail
  refine (read_any _ _).mono ?_
  rintro e w4 ⟨rfl, hr4, hb4⟩
  have hb04 := ((hb1.trans (hb2.mono hb1.size)).trans (hb3.mono (Nat.le_trans hb1.size hb2.size))).trans (hb4.mono (Nat.le_trans (Nat.le_trans hb1.size hb2.size) hb3.size))
  have hg : w.heap.size ≤ w3.heap.size := Nat.le_trans (Nat.le_trans hb1.size hb2.size) hb3.size
  clear hb1 hb2 hb3 hb4
  generalize w3.heap.size = g at *
  have HR := Lib.hid (show Rd w4 g [172, 2, 2, 97, 98, 2, 1, 120, 0] 0 from hr4)
  clear hr4
  go_wp2_with fail
  refine (ask_num _ _ HR.out).mono ?_
  rintro e w5 ⟨rfl, hr5, hg5⟩
  have HR5 := Lib.hid hr5
  clear hr5 HR
  go_wp2_with fail
  refine (ask_text _ _ HR5.out).mono ?_
  rintro e w6 ⟨rfl, hr6, hg6⟩
  have HR6 := Lib.hid hr6
  clear hr6 HR5
  go_wp2_with fail
  refine (ask_list _ _ HR6.out).mono ?_
  rintro e w7 ⟨b, off, c, rfl, hc7, hr7, hg7⟩
  have HR7 := Lib.hid hr7
  have hb07 : Below w.heap.size w w7 := below_of_grownBy hb04 (grownBy_trans (grownBy_trans hg5 hg6) hg7) hg hb04.size
  clear hr7 HR6 hg5 hg6 hg7 hb04
  go_wp2_with fail
  refine (num300 _).mono ?_
  rintro e w8 ⟨rfl, hb8⟩
  have HR8 := Lib.hid (HR7.out.below hb8)
  have hc8 := (hb8.cell (p := ⟨b, off, none⟩) hc7.1).trans hc7.2
  have hb08 := hb07.trans (hb8.mono hb07.size)
  clear HR7 hb8 hc7 hb07
  go_wp2_with (first
    | (go_at_call 18; refine (left_any g [] 0 _ HR8.out).mono ?_; rintro e w' ⟨rfl, rfl⟩)
    | (go_at_call 19; refine (err_any g [] 0 _ HR8.out).mono ?_; rintro e w' ⟨rfl, rfl⟩))
  go_ret
  exact ⟨rfl, hb08⟩
end Go.Proofs.Yticcnfibfdcmeaa
