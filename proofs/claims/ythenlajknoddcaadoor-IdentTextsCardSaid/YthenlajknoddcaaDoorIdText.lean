
/- Package ident's Text, Parse: strconv.Itoa, strings.Cut at a number sign, strconv.Atoi. -/
import Derived.Test.YthenlajknoddcaaDoorIdRight
import Derived.Test.YthenlajknoddcaaDoorIdNum
import Derived.Test.YthenlajknoddcaaDoorIdTab
import Derived.Test.YthenlajknoddcaaDoorBd
import Derived.Test.YthenlajknoddcaaDoorShelf
import Derived.Deep.RegionHeld3
import Derived.Deep.CutRange
import Derived.Lib.AppendIntMem
namespace Go.Proofs.YthenlajknoddcaaDoor
open Go.RowKit
set_option linter.unusedVariables false

theorem itoa_any (m : Nat) (w : World) (hT : Nums w) (hm : m ≤ 1048576) : Calls Tryd.prog 18 #[.int .i64 (m : Int)] w fun e w' => e = .returned (.string (toB (digits m))) ∧ Below w.heap.size w w' := by
  have h := Tryd.strconv_Itoa (m : Int) (by omega) (by omega) w hT.tab
  rw [Lib.itoa_nonneg, dec_digits] at h
  refine h.mono ?_
  rintro e w' ⟨rfl, k, os, rfl⟩
  exact ⟨rfl, Lib.below_grow _ w (Nat.le_refl _) k os⟩
set_option maxHeartbeats 4000000 in
set_option maxRecDepth 100000 in
theorem idtext_any (x : Im) (w : World) (hT : Nums w) (ox : x.p.size ≤ 1000000) :
    Calls Tryd.prog 6 #[x.val] w fun e w' => e = .returned (.string (toB (textK x.key))) ∧ Below w.heap.size w w' := by
  obtain ⟨hb, hx⟩ := id_box w x
  have HB := Lib.hid hb
  have HX := Lib.hid hx
  have HT := Lib.hid (hT.on hb)
  have CR := Lib.hid (idright_any x (w.alloc (.cells #[.string x.p, .int .i64 x.n] 23)) (by omega))
  clear hb hx hT
  cases hk : okK x.key
  · rw [hk] at CR
    rw [textK_no hk]
    unfold Im.val at CR ⊢
    have c0 := id_c0 HX.out
    have c1 := id_c1 HX.out
    go_enter Tryd.func6, Tryd.ntmps6
    go_wp2_with fail
    refine CR.out.mono ?_
    rintro e w1 ⟨rfl, hb⟩
    have HF := Lib.hid (HB.out.trans (hb.mono HB.out.size))
    clear hb CR c0 c1
    go_wp2
    go_ret
    exact ⟨rfl, HF.out⟩
  · rw [hk] at CR
    have hn := okK_n hk
    obtain ⟨m, hm⟩ : ∃ m : Nat, x.n = (m : Int) := ⟨x.n.toNat, by have h : x.n = x.key.2 := rfl; omega⟩
    have hm2 : m ≤ 1048576 := by
      have h : x.key.2 = (m : Int) := hm
      omega
    have hv : Hid (x.p ++ ⟨#[35]⟩ ++ toB (digits m) = toB (textK x.key)) := by
      show _ = _
      rw [textK_ok hk]
      apply bytes_inj
      have e : x.key.2.toNat = m := by show x.n.toNat = m; omega
      rw [e, of_toB]
      simp [Im.key, toB]
    rw [← hv.out]
    have hs0 : (⟨#[35]⟩ : ByteArray).size = 1 := rfl
    have z0 := digits_len m
    have z1 : ¬ 9223372036854775807 < x.p.size + 1 := by omega
    have z2 : ¬ 9223372036854775807 < x.p.size + 1 + (toB (digits m)).size := by rw [toB_size]; omega
    have z3 : ¬ 9223372036854775807 < (x.p ++ ⟨#[35]⟩).size + (toB (digits m)).size := by rw [toB_size, ByteArray.size_append, hs0]; omega
    have CI := Lib.hid (fun W (h : Below w.heap.size w W) (hT : Nums W) => itoa_any m W hT hm2)
    clear hv hk hn hm2
    obtain ⟨p, n⟩ := x
    simp only at *
    subst hm
    unfold Im.val at CR ⊢
    simp only at CR ⊢
    have c0 := id_c0 HX.out
    have c1 := id_c1 HX.out
    go_enter Tryd.func6, Tryd.ntmps6
    go_wp2_with fail
    generalize (w.alloc (.cells #[.string p, .int .i64 (m : Int)] 23)) = wb at *
    refine CR.out.mono ?_
    rintro e w1 ⟨rfl, hb⟩
    have HF := Lib.hid (HB.out.trans (hb.mono HB.out.size))
    have hx1 := HX.out.on hb
    have d0 := id_c0 hx1
    have d1 := id_c1 hx1
    have HT1 := Lib.hid (HT.out.on hb)
    have C2 : Hid (Calls Tryd.prog 18 #[.int .i64 (m : Int)] w1.drew fun e w' => e = .returned (.string (toB (digits m))) ∧ Below w1.drew.heap.size w1.drew w') := CI.out _ HF.out.drew (HT1.out.on (Below.refl _ _).drew)
    clear hb CR c0 c1 hx1 CI hs0
    -- @P1
    go_wp2_with fail
    go_region_held3 (fun w' => w'.cell? ⟨w.heap.size, 0, none⟩ = some (.string p) ∧ w'.cell? ⟨w.heap.size, 1, none⟩ = some (.int .i64 (m : Int))) (first | exact ⟨d0, d1⟩ | exact ⟨cell_on2 d0 hb7, cell_on2 d1 hb7⟩ | (go_keep; done)) (first | (go_at_call 18; refine C2.out.mono ?_; rintro e w7 ⟨rfl, hb7⟩))
    all_goals
      have HF2 := Lib.hid (HF.out.trans ((below_dr hb7).mono HF.out.size))
      clear hb7
      go_wp2
      go_ret
      exact ⟨rfl, HF2.out⟩
end Go.Proofs.YthenlajknoddcaaDoor
