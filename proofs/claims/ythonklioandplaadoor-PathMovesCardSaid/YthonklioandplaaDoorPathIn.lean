
/- Package path's within, Within, Move. -/
import Derived.Test.YthonklioandplaaDoorPathCut
namespace Go.Proofs.YthonklioandplaaDoor
open Go.RowKit
set_option linter.unusedVariables false

theorem nameP_empty : nameP [] = false := by decide +kernel
theorem nameP_slash {x : List UInt8} (h : nameP x = true) : (47 : UInt8) ∉ x := by
  intro hm
  unfold nameP rightB at h
  rw [Bool.and_eq_true] at h
  have h2 := h.2
  unfold allIn at h2
  rw [List.all_eq_true] at h2
  have := h2 47 (by rw [of_toB]; exact hm)
  revert this
  decide +kernel

theorem hasprefix_any (s d : ByteArray) (b : Bool) (hb : ((d.data.toList ++ [47]).isPrefixOf s.data.toList) = b) (w : World) : Calls Tryd.prog 44 #[.string s, .string (d ++ ⟨#[47]⟩)] w fun e w' => e = .returned (.bool b) ∧ w' = w := by
  have h := Tryd.strings_HasPrefix s (d ++ ⟨#[47]⟩) w
  unfold Lib.hasPrefix at h
  rw [show (d ++ (⟨#[47]⟩ : ByteArray)).data.toList = d.data.toList ++ [47] by simp [ByteArray.data_append], hb] at h
  exact h
set_option maxHeartbeats 1000000 in
set_option maxRecDepth 100000 in
theorem within1_any (B : Nat) (d s : ByteArray) (w : World) (hB : B < w.heap.size) (hc : w.cell? ⟨B, 0, none⟩ = some (.string (d ++ ⟨#[47]⟩))) (hs : s.size ≤ 1000000) :
    Calls Tryd.prog 43 #[.string s, .pointer (some ⟨B, 0, none⟩)] w fun e w' => e = .returned (.bool ((d.data.toList ++ [47]).isPrefixOf s.data.toList && decide (pnames s ≠ []))) ∧ Below w.heap.size w w' := by
  have CR := Lib.hid (pright_any s w hs)
  generalize decide (pnames s ≠ []) = r at *
  obtain ⟨b, hb⟩ : ∃ b, ((d.data.toList ++ [47]).isPrefixOf s.data.toList) = b := ⟨_, rfl⟩
  have CP := Lib.hid (hasprefix_any s d b hb w)
  rw [hb]
  clear hb
  generalize d ++ ⟨#[47]⟩ = dd at *
  cases b with
  | false =>
    go_enter Tryd.func43, Tryd.ntmps43
    go_wp2_with fail
    refine CP.out.mono ?_
    rintro e w1 ⟨rfl, rfl⟩
    go_wp2
    go_ret
    exact ⟨rfl, Below.refl _ _⟩
  | true =>
    go_enter Tryd.func43, Tryd.ntmps43
    go_wp2_with fail
    refine CP.out.mono ?_
    rintro e w1 ⟨rfl, rfl⟩
    go_wp2_with fail
    refine CR.out.mono ?_
    rintro e w2 ⟨rfl, hb⟩
    have HB := Lib.hid hb
    clear hb
    go_wp2
    go_ret
    exact ⟨rfl, HB.out⟩
theorem within_none (w : World) :
    Calls Tryd.prog 29 #[.string ⟨#[]⟩] w fun e w' => e = .returned (.func (.func 12) #[] #[]) ∧ w' = w := by
  go_enter Tryd.func29, Tryd.ntmps29
  go_wp2
  go_ret
  exact ⟨rfl, rfl⟩
theorem within_some (d : ByteArray) (hd : d ≠ ⟨#[]⟩) (hs : d.size ≤ 1000000) (w : World) :
    Calls Tryd.prog 29 #[.string d] w fun e w' => e = .returned (.func (.func 43) #[] #[.pointer (some ⟨w.heap.size, 0, none⟩)]) ∧ w' = w.alloc (.cells #[.string (d ++ ⟨#[47]⟩)] 9) := by
  have hne : (d.toList == []) = false := by
    rw [beq_eq_false_iff_ne]
    intro h
    apply hd
    rw [toList_eq] at h
    exact bytes_inj h
  have hne2 : ¬ (d.toList = []) := by simpa using hne
  go_enter Tryd.func29, Tryd.ntmps29
  go_wp2
  go_ret
  exact ⟨rfl, rfl⟩
set_option maxHeartbeats 1000000 in
set_option maxRecDepth 100000 in
theorem pwithin_any (s t : ByteArray) (w : World) (hs : s.size ≤ 1000000) (ht : t.size ≤ 1000000) :
    Calls Tryd.prog 19 #[.string s, .string t] w fun e w' => e = .returned (.bool (withinP nameP s.data.toList t.data.toList)) ∧ Below w.heap.size w w' := by
  by_cases h0 : t = ⟨#[]⟩
  · subst h0
    rw [show withinP nameP s.data.toList (⟨#[]⟩ : ByteArray).data.toList = decide (pnames s ≠ []) from within_root nameP_empty _]
    have CR := Lib.hid (pright_any s w hs)
    generalize decide (pnames s ≠ []) = r at *
    have CW := Lib.hid (within_none w)
    go_enter Tryd.func19, Tryd.ntmps19
    go_wp2_with fail
    refine CW.out.mono ?_
    rintro e w1 ⟨rfl, rfl⟩
    go_wp2_with fail
    refine CR.out.mono ?_
    rintro e w2 ⟨rfl, hb⟩
    have HB := Lib.hid hb
    clear hb
    go_wp2
    go_ret
    exact ⟨rfl, HB.out⟩
  · have hd : t.data.toList ≠ [] := fun e => h0 (bytes_inj e)
    rw [within_dir hd]
    have hal : Below w.heap.size w (w.alloc (.cells #[.string (t ++ ⟨#[47]⟩)] 9)) := (Below.refl _ _).alloc (Nat.le_refl _) _
    have C1 := Lib.hid (within1_any w.heap.size t s (w.alloc (.cells #[.string (t ++ ⟨#[47]⟩)] 9)) (by simp) (by rw [World.cell?_alloc_new]; rfl) hs)
    have CW := Lib.hid (within_some t h0 ht w)
    have HA := Lib.hid hal
    unfold pnames at C1
    generalize ((t.data.toList ++ [47]).isPrefixOf s.data.toList && decide (names nameP s.data.toList ≠ [])) = r at *
    clear hal hd h0
    generalize (t ++ ⟨#[47]⟩) = tt at *
    go_enter Tryd.func19, Tryd.ntmps19
    go_wp2_with fail
    refine CW.out.mono ?_
    rintro e w1 ⟨rfl, rfl⟩
    go_wp2_with fail
    refine C1.out.mono ?_
    rintro e w2 ⟨rfl, hb⟩
    have HB := Lib.hid (HA.out.trans (hb.mono HA.out.size))
    clear hb
    go_wp2
    go_ret
    exact ⟨rfl, HB.out⟩
theorem within_c : WithinC := fun s t w hs ht => pwithin_any s t w (by omega) (by omega)
theorem trimprefix_any (s d : ByteArray) (w : World) : Calls Tryd.prog 30 #[.string s, .string d] w fun e w' => e = .returned (.string (toB (Lib.trimPrefix s.data.toList d.data.toList))) ∧ w' = w := Tryd.strings_TrimPrefix s d w
end Go.Proofs.YthonklioandplaaDoor
