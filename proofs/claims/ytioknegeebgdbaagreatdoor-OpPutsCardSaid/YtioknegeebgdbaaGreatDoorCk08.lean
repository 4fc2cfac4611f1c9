/- Package op: a reader's calls in whatever state it is; idOf, partsOf. -/
import Derived.Test.YtioknegeebgdbaaGreatDoorCk07
namespace Go.Proofs.YtioknegeebgdbaaGreatDoor
open Go.RowKit
set_option linter.unusedVariables false

/-- A reader in block g: what is left, and the error. -/
abbrev RdS (w : World) (g : Nat) (s : St) : Prop := Rd w g s.1 s.2
theorem sNum_len (s : St) : (sNum s).2.1.length ≤ s.1.length := by
  unfold sNum
  split
  · exact rNum_len s.1
  · exact Nat.le_refl _
theorem sText_len (s : St) : (sText s).2.1.length ≤ s.1.length ∧ (sText s).1.length ≤ s.1.length := by
  have h := rText_len s.1
  unfold sText
  split
  · simp only
    exact ⟨by omega, by omega⟩
  · exact ⟨Nat.le_refl _, Nat.zero_le _⟩
theorem rTexts_small : ∀ (n : Nat) (l : List UInt8), (rTexts n l).2.2.length ≤ l.length ∧ ∀ x ∈ (rTexts n l).1, x.length ≤ l.length
  | 0, l => ⟨Nat.le_refl _, fun x hx => by cases hx⟩
  | n + 1, l => by
    have h1 := rText_len l
    obtain ⟨h2, h3⟩ := rTexts_small n (rText l).2.2
    unfold rTexts
    split
    · exact ⟨Nat.zero_le _, fun x hx => by cases hx⟩
    · split
      · exact ⟨Nat.zero_le _, fun x hx => by cases hx⟩
      · refine ⟨by show (rTexts n (rText l).2.2).2.2.length ≤ _; omega, fun x hx => ?_⟩
        rcases List.mem_cons.1 hx with rfl | hx
        · omega
        · have := h3 x hx
          omega
theorem rTexts_count : ∀ (n : Nat) (l : List UInt8), (rTexts n l).1.length ≤ n
  | 0, l => Nat.le_refl _
  | n + 1, l => by
    have h := rTexts_count n (rText l).2.2
    unfold rTexts
    split
    · exact Nat.zero_le _
    · split
      · exact Nat.zero_le _
      · rw [List.length_cons]; omega
theorem sList_len (s : St) : (sList s).2.1.length ≤ s.1.length ∧ (sList s).1.length ≤ s.1.length ∧ ∀ x ∈ (sList s).1, x.length ≤ s.1.length := by
  have h1 := rCount_len s.1
  have h2 := rCount_le s.1
  obtain ⟨h3, h4⟩ := rTexts_small (rCount s.1).1 (rCount s.1).2.2
  have h5 := rTexts_count (rCount s.1).1 (rCount s.1).2.2
  unfold sList rList
  split
  · split
    · exact ⟨Nat.zero_le _, Nat.zero_le _, fun x hx => by cases hx⟩
    · simp only
      exact ⟨by omega, by omega, fun x hx => Nat.le_trans (h4 x hx) h1⟩
  · exact ⟨Nat.le_refl _, Nat.zero_le _, fun x hx => by cases hx⟩
/-- A reader's call in any state: what it hands back; what is left; no other block has changed. -/
theorem rnum_any (g : Nat) (s : St) (w : World) (h : RdS w g s) (hl : s.1.length ≤ 1000000) :
    Calls Tryz.prog 58 #[.pointer (some ⟨g, 0, none⟩)] w fun e w' => e = .returned (.int .u64 ((sNum s).1 : Int)) ∧ RdS w' g (sNum s).2 ∧ w.grownBy w' (some g) := by
  obtain ⟨l, e0⟩ := s
  unfold sNum
  by_cases h0 : e0 = 0
  · subst h0
    rw [if_pos rfl]
    exact rnum_ok g l w h (by have : l.length ≤ 1000000 := hl; omega)
  · rw [if_neg h0]
    refine (rnum_bad g l e0 w h h0).mono ?_
    rintro e w' ⟨rfl, rfl⟩
    exact ⟨rfl, h, grownBy_refl _ _⟩
theorem rtext_any (g : Nat) (s : St) (w : World) (h : RdS w g s) (hl : s.1.length ≤ 1000000) :
    Calls Tryz.prog 60 #[.pointer (some ⟨g, 0, none⟩)] w fun e w' => e = .returned (.string (toB (sText s).1)) ∧ RdS w' g (sText s).2 ∧ w.grownBy w' (some g) := by
  obtain ⟨l, e0⟩ := s
  have hl2 : l.length ≤ 1000000 := hl
  unfold sText
  by_cases h0 : e0 = 0
  · subst h0
    rw [if_pos rfl]
    exact rtext_ok g l w h (by omega)
  · rw [if_neg h0]
    refine (rtext_bad g l e0 w h h0 (by omega)).mono ?_
    rintro e w' ⟨rfl, rfl⟩
    exact ⟨rfl, h, grownBy_refl _ _⟩
/-- A list read: a row of the call's own. -/
def ListLeft (w : World) (g : Nat) (s : St) (e : Ending) (w' : World) : Prop :=
  ∃ (A : Option Addr) (n c : Nat), e = .returned (.slice A n c) ∧ n = (sList s).1.length ∧ OwnS w' w.heap.size (.slice A n c) (sList s).1 ∧ Room A n c ∧ RdS w' g (sList s).2 ∧ w.grownBy w' (some g)
theorem rlist_any (g : Nat) (s : St) (w : World) (h : RdS w g s) (hl : s.1.length ≤ 1000000) :
    Calls Tryz.prog 61 #[.pointer (some ⟨g, 0, none⟩)] w (ListLeft w g s) := by
  obtain ⟨l, e0⟩ := s
  have hl2 : l.length ≤ 1000000 := hl
  unfold ListLeft sList
  by_cases h0 : e0 = 0
  · subst h0
    rw [if_pos rfl]
    refine (rlist_own g l w h (by omega)).mono ?_
    rintro e w' ⟨A, c, ss, rfl, h2, h3, h4, h5, h6, h7⟩
    refine ⟨A, ss.length, c, rfl, ?_, ?_, h4, h5, h6⟩
    · show ss.length = (rList l).1.length
      rw [← h2, lists_len]
    · show OwnS w' w.heap.size _ (rList l).1
      rw [← h2]
      unfold OwnS
      rw [lists_len, show (lists ss).map encStr = scells ss by
        unfold scells lists encStr
        rw [List.map_map]
        refine List.map_congr_left fun s _ => ?_
        show Value.string _ = _
        exact congrArg Value.string (toB_of s)]
      exact h7
  · rw [if_neg h0]
    refine (rlist_bad g l e0 w h h0 (by omega)).mono ?_
    rintro e w' ⟨rfl, rfl⟩
    exact ⟨none, 0, 0, rfl, rfl, OwnS.nil _ _, ⟨fun _ => rfl, Nat.le_refl _⟩, h, grownBy_refl _ _⟩
/-- The id that a text is. -/
noncomputable def idM (s : ByteArray) : Im := imOf (idOfK s.data.toList)
theorem idM_key (s : ByteArray) : (idM s).key = idOfK s.data.toList := imOf_key _
theorem idOfK_short (l : List UInt8) : (idOfK l).1.length ≤ 40 := by
  unfold idOfK
  split
  · rename_i h
    exact okK_short h.choose_spec.1
  · exact Nat.zero_le _
set_option maxHeartbeats 2000000 in
set_option maxRecDepth 100000 in
theorem opidof_any (s : ByteArray) (w : World) (hN : Nums w) (hs : s.size ≤ 1000000) :
    Calls Tryz.prog 59 #[.string s] w fun e w' => e = .returned (.agg #[.string (idM s).p, .int .i64 (idM s).n]) ∧ Below w.heap.size w w' := by
  obtain ⟨hb, hr⟩ := id_box w ⟨⟨#[]⟩, 0⟩
  have HR := Lib.hid hr
  have HB := Lib.hid hb
  have CP := Lib.hid (idparse_any s _ (hN.on hb) hs)
  clear hb hr hN
  go_enter Tryz.func59, Tryz.ntmps59
  go_upto_region 1 with (fail)
  generalize (w.alloc (.cells #[.string ⟨#[]⟩, .int .i64 0] 23)) = w0 at *
  go_wp2_with fail
  refine CP.out.mono ?_
  rintro e w1 ⟨z, er, rfl, hp, hb⟩
  have hz : idM s = z := by
    unfold idM
    rw [idOf_parse hp.out, key_imOf]
  have HZ := Lib.hid hz
  obtain ⟨hbx, hx⟩ := id_box w1 z
  have HX := Lib.hid hx
  have hR2 := (HR.out.on hb).on hbx
  have r0 := id_c0 hR2
  have r1 := id_c1 hR2
  have f0 := Rk.At.fz hR2 0
  have f1 := Rk.At.fz hR2 1
  have hb2 := (HB.out.trans (hb.mono HB.out.size)).trans (hbx.mono (Nat.le_trans HB.out.size hb.size))
  have HFS := Lib.hid (id_set hR2 z.p z.n)
  have HFB := Lib.hid (id_below (g := w.heap.size) z.p z.n hb2 (Nat.le_refl _) hb2.size)
  unfold Im.val
  clear hp hz hb hbx hx hR2 hb2 CP HR HB
  go_upto_region 2 with (fail)
  have y0 := id_c0 HX.out
  have y1 := id_c1 HX.out
  generalize (w1.alloc (.cells #[.string z.p, .int .i64 z.n] 23)) = w2 at *
  go_wp2
  (try simp only [Exit.inBlock, Exit.then])
  refine bodyPost_ret (ret_id rfl _ _ _ z rfl HFS.out) rfl ?_
  rw [HZ.out]
  exact ⟨rfl, HFB.out⟩
/-- A function that reads what is left of a reader lies at b: where its reader lies. -/
structure FnAt (w : World) (b g : Nat) : Prop where
  box : w.cell? ⟨b, 0, none⟩ = some (.pointer (some ⟨g, 0, none⟩))
  bl : b < w.heap.size
  gl : g < w.heap.size
  bg : b ≠ g
theorem opparts_any (s : ByteArray) (w : World) :
    Calls Tryz.prog 33 #[.string s] w fun e w' => ∃ b g, e = .returned (.func (.func 57) #[] #[.pointer (some ⟨b, 0, none⟩)]) ∧ FnAt w' b g ∧ RdS w' g (s.data.toList, 0) ∧ w.heap.size ≤ g ∧ w.heap.size ≤ b ∧ Below w.heap.size w w' := by
  have CR := Lib.hid (read_any s w)
  go_enter Tryz.func33, Tryz.ntmps33
  go_wp2_with fail
  refine CR.out.mono ?_
  rintro e w1 ⟨rfl, hr, hb⟩
  have HR := Lib.hid hr
  have HB := Lib.hid hb
  have hlt : w.heap.size < w1.heap.size := hr.lt
  have hal : Below w1.heap.size w1 (w1.alloc (.cells #[.pointer (some ⟨w.heap.size, 0, none⟩)] 70)) := (Below.refl _ _).alloc (Nat.le_refl _) _
  have HAL := Lib.hid hal
  clear hr hb hal CR
  go_wp2
  go_ret
  refine ⟨w1.heap.size, w.heap.size, rfl, ⟨?_, ?_, ?_, ?_⟩, HR.out.below HAL.out, Nat.le_refl _, by omega, HB.out.trans (HAL.out.mono HB.out.size)⟩
  · rw [World.cell?_alloc_new]; rfl
  · simp
  · simp; omega
  · omega
end Go.Proofs.YtioknegeebgdbaaGreatDoor
