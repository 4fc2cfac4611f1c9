/- The reference's Touch of layer 9, Invert of layer 7. The reference's Touches, near, Apart of layer 8. -/
import Derived.BigQuiet
import Derived.Deep.QuietTactic
import Derived.Handy
import Derived.Test.YtalabahjfmcnbaaGreatDoorShelf
import Derived.Deep.RegionHeld3
import Derived.WalkKit
import Derived.Test.YtalabahjfmcnbaaGreatDoorCk25
namespace Go.Proofs.YtalabahjfmcnbaaGreatDoor
open Go.RowKit
set_option linter.unusedVariables false


/-- The reference's Check of a step that comes of light ones. -/
theorem refck_w {x : Pm} {w : World} (ok : x.Ok w w.heap.size) (h : WdK x.key) (hT : Tabs w) : Calls Tryz.prog 39 #[x.val] w fun e w' => e = .returned (.int .i64 (ckP x.key)) ∧ Below w.heap.size w w' :=
  refckp_any x w ok h.old.1 h.new.1 h.old.2 h.new.2 hT
end Go.Proofs.YtalabahjfmcnbaaGreatDoor
namespace Go.Proofs.YtalabahjfmcnbaaGreatDoor
open Go.RowKit
set_option linter.unusedVariables false

theorem own_one (w : World) (B : Nat) (s : ByteArray) (hB : B ≤ w.heap.size) : OwnS (w.alloc (.cells #[.string s] 9)) B (.slice (some ⟨w.heap.size, 0, none⟩) 1 1) [s.data.toList] :=
  ⟨by simp, .inr ⟨w.heap.size, 1, #[.string s], rfl, hB, heap_alloc_new w _, Nat.le_refl _, by unfold maxLen; decide, rfl, by simp [encStr_eq, toB_of]⟩⟩
set_option maxHeartbeats 8000000 in
set_option maxRecDepth 100000 in
theorem reftouches_any (x : Pm) (w : World) (ox : x.Ok w w.heap.size) (wx : WdK x.key) (hT : Tabs w) :
    Calls Tryz.prog 21 #[x.val] w (RowLeft w (touchesR x.key)) := by
  obtain ⟨hal, hx⟩ := box1 w x
  have CK := refck_w (ox.on hal) wx (Tabs.on hT hal)
  have H0 : Hid (ckP x.key ≠ 0 → touchesR x.key = []) := fun h => if_neg h
  have H5 : Hid (ckP x.key = 0 → x.kind = 5 → touchesR x.key = [x.p.data.toList, x.dst.data.toList]) := fun h h5 => by
    unfold touchesR touches
    rw [if_pos h, if_pos (show x.key.kind = 5 from h5)]
    rfl
  have H6 : Hid (ckP x.key = 0 → ¬ x.kind = 5 → touchesR x.key = [x.p.data.toList]) := fun h h5 => by
    unfold touchesR touches
    rw [if_pos h, if_neg (show ¬ x.key.kind = 5 from h5)]
    rfl
  unfold Pm.val at CK ⊢
  have e0 : (w.alloc (.cells x.cells.toArray 33)) = (w.alloc (.cells #[.int .i64 x.kind, .string x.p, .string x.dst, .int .i64 x.at_, .slice x.a1 x.old.length x.c1, .slice x.a2 x.new.length x.c2] 33)) := rfl
  rw [e0] at hal hx CK
  generalize ckP x.key = n1 at *
  generalize touchesR x.key = ls at *
  have HX := Lib.hid hx
  have HA := Lib.hid hal
  have CK := Lib.hid CK
  clear hal hx e0 ox wx hT
  by_cases h0 : n1 = 0
  · have k0 : (n1 != 0) = false := by simpa using h0
    by_cases h5 : x.kind = 5
    · have k5 : (x.kind == 5) = true := by simpa using h5
      have hl := H5.out h0 h5
      subst hl
      subst h0
      clear H0 H5 H6 h5
      go_enter Tryz.func21, Tryz.ntmps21
      go_wp2_with fail
      generalize (w.alloc (.cells #[.int .i64 x.kind, .string x.p, .string x.dst, .int .i64 x.at_, .slice x.a1 x.old.length x.c1, .slice x.a2 x.new.length x.c2] 33)) = wa at *
      refine CK.out.mono ?_
      rintro e w1 ⟨rfl, hb⟩
      replace HX := Lib.hid (HX.out.on hb)
      replace HA := Lib.hid (HA.out.trans (hb.mono HA.out.size))
      clear hb CK
      have x0 := HX.out.c0
      have x1 := HX.out.c1
      have x2 := HX.out.c2
      have x3 := HX.out.c3
      have x4 := HX.out.c4
      have x5 := HX.out.c5
      have b1 : Below w1.heap.size w1 (w1.alloc (.cells #[.string x.p] 9)) := (Below.refl _ _).alloc (Nat.le_refl _) _
      have b2 := b1.alloc b1.size (.cells #[.string x.dst] 9)
      have HW := Lib.hid ((own_one w1 w.heap.size x.p HA.out.size).kept ((Below.refl _ _).alloc (Nat.le_refl _) (.cells #[.string x.dst] 9)))
      have hst := strs_one (w1.alloc (.cells #[.string x.p] 9)) x.dst
      have hz1 : (w1.alloc (.cells #[.string x.p] 9)).heap.size = w1.heap.size + 1 := World.size_alloc _ _
      have HST := Lib.hid hst
      rw [hz1] at HST
      have HB2 := Lib.hid (HA.out.trans (b2.mono HA.out.size))
      have HX2 := Lib.hid (HX.out.on b1)
      clear b1 b2 hst hz1
      have y1 := HX2.out.c1
      have y2 := HX2.out.c2
      have y0 := HX2.out.c0
      go_wp2_with (at_builtin; refine wpList_append_row rfl _ _ rfl w.heap.size (.slice (some ⟨w1.heap.size, 0, none⟩) 1 1) [x.p.data.toList] [x.dst.data.toList] rfl HW.out (some ⟨w1.heap.size + 1, 0, none⟩) 1 1 rfl rfl (fun e => by cases e) HST.out HB2.out.size (by simp) 2 rfl ?_)
      intro A' c' w' ho hs hg
      have HF : Hid (RowLeft w [x.p.data.toList, x.dst.data.toList] (.returned (.slice A' 2 c')) w') := ⟨A', c', rfl, fun e => by
        subst e
        have := ho.strs
        obtain ⟨A2, c2, e2, _, _, hn⟩ := this
        simp only [Value.slice.injEq] at e2
        exact absurd (hn e2.1.symm) (by simp), hs, below_append HB2.out HW.out hg (Nat.le_refl _)⟩
      clear ho hs hg
      go_wp2
      go_ret
      exact HF.out
    · have k5 : (x.kind == 5) = false := by simpa using h5
      have hl := H6.out h0 h5
      subst hl
      subst h0
      clear H0 H5 H6 h5
      go_enter Tryz.func21, Tryz.ntmps21
      go_wp2_with fail
      generalize (w.alloc (.cells #[.int .i64 x.kind, .string x.p, .string x.dst, .int .i64 x.at_, .slice x.a1 x.old.length x.c1, .slice x.a2 x.new.length x.c2] 33)) = wa at *
      refine CK.out.mono ?_
      rintro e w1 ⟨rfl, hb⟩
      replace HX := Lib.hid (HX.out.on hb)
      replace HA := Lib.hid (HA.out.trans (hb.mono HA.out.size))
      clear hb CK
      have x0 := HX.out.c0
      have x1 := HX.out.c1
      have x2 := HX.out.c2
      have x3 := HX.out.c3
      have x4 := HX.out.c4
      have x5 := HX.out.c5
      have b1 : Below w1.heap.size w1 (w1.alloc (.cells #[.string x.p] 9)) := (Below.refl _ _).alloc (Nat.le_refl _) _
      have HF : Hid (RowLeft w [x.p.data.toList] (.returned (.slice (some ⟨w1.heap.size, 0, none⟩) 1 1)) (w1.alloc (.cells #[.string x.p] 9))) := ⟨_, _, rfl, (fun e => by cases e), strs_one w1 x.p, HA.out.trans (b1.mono HA.out.size)⟩
      have y0 := (HX.out.on b1).c0
      clear b1
      go_wp2
      go_ret
      exact HF.out
  · have k0 : (n1 != 0) = true := by simpa using h0
    have hl := H0.out h0
    subst hl
    clear H0 H5 H6 h0
    go_enter Tryz.func21, Tryz.ntmps21
    go_wp2_with fail
    generalize (w.alloc (.cells #[.int .i64 x.kind, .string x.p, .string x.dst, .int .i64 x.at_, .slice x.a1 x.old.length x.c1, .slice x.a2 x.new.length x.c2] 33)) = wa at *
    refine CK.out.mono ?_
    rintro e w1 ⟨rfl, hb⟩
    have HB := Lib.hid (HA.out.trans (hb.mono HA.out.size))
    clear hb CK
    go_wp2
    go_ret
    exact ⟨none, 0, rfl, fun _ => rfl, Strs.none_, HB.out⟩
theorem names_few (p : List UInt8) : (names nameP p).length ≤ 16 := by
  by_cases h : names nameP p = []
  · rw [h]; simp
  · obtain ⟨e, _, _, h2⟩ := names_pieces nameP h
    rw [e]; exact h2
set_option maxHeartbeats 8000000 in
set_option maxRecDepth 100000 in
theorem refnear_any (x : Pm) (s t : ByteArray) (w : World) (hs : s.size ≤ 9223372036854775807) (ht : t.size ≤ 9223372036854775807) (r : Bool) (hr : nearP x.key s.data.toList t.data.toList = r) :
    Calls Tryz.prog 67 #[x.val, .string s, .string t] w fun e w' => e = .returned (.bool r) ∧ Below w.heap.size w w' := by
  obtain ⟨hal, hx⟩ := box1 w x
  unfold Pm.val
  have e0 : (w.alloc (.cells x.cells.toArray 33)) = (w.alloc (.cells #[.int .i64 x.kind, .string x.p, .string x.dst, .int .i64 x.at_, .slice x.a1 x.old.length x.c1, .slice x.a2 x.new.length x.c2] 33)) := rfl
  rw [e0] at hal hx
  have HX := Lib.hid hx
  have HA := Lib.hid hal
  have HR : Hid (r = (decide (s = t) || (decide (x.kind ≤ 2) && (decide ((names nameP s.data.toList).length < (names nameP t.data.toList).length) && beginsP (names nameP t.data.toList) (names nameP s.data.toList))))) := by
    show _ = _
    rw [← hr]
    unfold nearP inDir
    have e1 : decide (s.data.toList = t.data.toList) = decide (s = t) := by rw [decide_eq_decide]; exact ⟨bytes_inj, fun e => by rw [e]⟩
    rw [e1]
    rfl
  clear hal hx e0 hr
  by_cases h1 : s = t
  · subst h1
    have e1 : (s.toList == s.toList) = true := by simp
    have hf : r = true := by rw [HR.out]; simp
    subst hf
    clear HR
    go_enter Tryz.func67, Tryz.ntmps67
    go_wp2
    go_ret
    exact ⟨rfl, HA.out⟩
  · have e1 : (s.toList == t.toList) = false := str_ne h1
    have C1 := Lib.hid (fun W => refnames_any s W hs)
    have C2 := Lib.hid (fun W => refnames_any t W ht)
    have HR : Hid (r = (decide (x.kind ≤ 2) && (decide ((names nameP s.data.toList).length < (names nameP t.data.toList).length) && beginsP (names nameP t.data.toList) (names nameP s.data.toList)))) := by
      show _ = _
      rw [HR.out, decide_eq_false h1, Bool.false_or]
    have hn1 := names_few s.data.toList
    have hn2 := names_few t.data.toList
    generalize names nameP s.data.toList = la at *
    generalize names nameP t.data.toList = lb at *
    clear h1
    go_enter Tryz.func67, Tryz.ntmps67
    go_wp2_with fail
    generalize (w.alloc (.cells #[.int .i64 x.kind, .string x.p, .string x.dst, .int .i64 x.at_, .slice x.a1 x.old.length x.c1, .slice x.a2 x.new.length x.c2] 33)) = wa at *
    refine (C1.out wa).mono ?_
    rintro e w1 ⟨v1, rfl, ho1, hb⟩
    obtain ⟨A1, c1, rfl, hs1, _, hnil1⟩ := ho1.strs
    have HS1 := Lib.hid hs1
    have HO1 := Lib.hid ho1
    replace HX := Lib.hid (HX.out.on hb)
    replace HA := Lib.hid (HA.out.trans (hb.mono HA.out.size))
    clear hb ho1 hs1 hnil1 C1
    go_wp2_with fail
    refine (C2.out w1).mono ?_
    rintro e w2 ⟨v2, rfl, ho2, hb⟩
    obtain ⟨A2, c2, rfl, hs2, _, hnil2⟩ := ho2.strs
    have HS2 := Lib.hid hs2
    have HR2 := Lib.hid ho2.at_.2.1
    replace HS1 := Lib.hid (HS1.out.on hb)
    replace HX := Lib.hid (HX.out.on hb)
    replace HA := Lib.hid (HA.out.trans (hb.mono HA.out.size))
    clear hb ho2 hs2 hnil2 C2 HO1
    have x0 := HX.out.c0
    by_cases hk : x.kind ≤ 2
    · by_cases hl : la.length < lb.length
      · have hl2 : (la.length : Int) < (lb.length : Int) := by omega
        have CB := Lib.hid (refbegins_any A2 A1 lb la c2 c1 w2 HS2.out HS1.out HR2.out (by omega) (by omega))
        have hf : r = beginsP lb la := by rw [HR.out, decide_eq_true hk, decide_eq_true hl, Bool.true_and, Bool.true_and]
        rw [← hf] at CB
        clear HR hf hl
        go_wp2_with fail
        refine CB.out.mono ?_
        rintro e w3 ⟨rfl, q, hw⟩
        have hb : Below w2.heap.size w2 w3 := by subst hw; exact below_drewN (Below.refl _ _) q
        have HB := Lib.hid (HA.out.trans (hb.mono HA.out.size))
        clear hb hw CB
        go_wp2
        go_ret
        exact ⟨rfl, HB.out⟩
      · have hl2 : ¬ (la.length : Int) < (lb.length : Int) := by omega
        have hf : r = false := by rw [HR.out, decide_eq_false hl]; simp
        subst hf
        clear HR hl
        go_wp2
        go_ret
        exact ⟨rfl, HA.out⟩
    · have hf : r = false := by rw [HR.out, decide_eq_false hk]; simp
      subst hf
      clear HR
      go_wp2
      go_ret
      exact ⟨rfl, HA.out⟩
end Go.Proofs.YtalabahjfmcnbaaGreatDoor
