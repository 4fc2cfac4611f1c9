
/- The statements of layer 6, over what package tree's calls are to do: awake. -/
import Derived.Test.YtcjiipmageddhaaDoorTreeSpec
namespace Go.Proofs.YtcjiipmageddhaaDoor
open Go.RowKit
set_option linter.unusedVariables false

def ka1 : List PF := [([97], true, [])]
def ka2 : List PF := [([97], true, []), ([97, 47, 98], false, [[120]])]
def ka3 : List PF := [([97], true, []), ([99], false, [[120]])]
theorem ka1_do : doK [] 0 [97] [] [] 0 = (0, ka1) := by decide +kernel
theorem ka2_do : doK ka1 1 [97, 47, 98] [] [[120]] (checkN (toBs [[120]])) = (0, ka2) := by decide +kernel
theorem ka3_do : doK ka2 3 [97, 47, 98] [99] [] 0 = (0, ka3) := by decide +kernel
set_option maxHeartbeats 4000000 in
set_option maxRecDepth 100000 in
theorem tawake_any {Tr : World → Option Addr → Nat → Nat → List PF → Prop} (T : TreeC Tr) (w : World) (hT : Tabs w) : Calls Tryd.prog 4 #[] w fun e w' => e = .returned (.bool true) ∧ Below w.heap.size w w' := by
  go_enter Tryd.func4, Tryd.ntmps4
  go_wp2_with fail
  refine (T.mkdir _ _ _ [] ⟨#[97]⟩ 0 ka1 w (T.zero w) (by decide) (by decide) ka1_do).mono ?_
  rintro e w1 ⟨B1, n1, c1, rfl, ht, hb⟩
  have hal : Below w1.heap.size w1 ((w1.alloc (.cells #[.slice B1 n1 c1] 25)).alloc (.cells #[.string ⟨#[120]⟩] 9)) := ((Below.refl _ _).alloc (Nat.le_refl _) _).alloc (by simp) _
  have H1 := Lib.hid (T.on (ht.out.1 rfl) hal)
  have HB1 := Lib.hid (hb.trans (hal.mono hb.size))
  have HT1 : Hid (TAt ((w1.alloc (.cells #[.slice B1 n1 c1] 25)).alloc (.cells #[.string ⟨#[120]⟩] 9)) w1.heap.size B1 n1 c1) := (TAt.new_ w1 B1 n1 c1).on ((Below.refl _ _).alloc (Nat.le_refl _) _)
  have HTB := Lib.hid (Tabs.on hT HB1.out)
  have HST : Hid (Strs ((w1.alloc (.cells #[.slice B1 n1 c1] 25)).alloc (.cells #[.string ⟨#[120]⟩] 9)) ((w1.alloc (.cells #[.slice B1 n1 c1] 25)).alloc (.cells #[.string ⟨#[120]⟩] 9)).heap.size (some ⟨w1.heap.size + 1, 0, none⟩) (toBs [[120]])) := by
    have h := strs_one (w1.alloc (.cells #[.slice B1 n1 c1] 25)) ⟨#[120]⟩
    rw [show (w1.alloc (.cells #[.slice B1 n1 c1] 25)).heap.size = w1.heap.size + 1 by simp] at h
    exact h
  have CW := Lib.hid (T.write B1 n1 c1 ka1 ⟨#[97, 47, 98]⟩ (some ⟨w1.heap.size + 1, 0, none⟩) [[120]] 1 0 ka2 _ H1.out (by decide) (by decide) HST.out ⟨fun h => (by cases h), Nat.le_refl _⟩ ⟨by decide, by decide⟩ HTB.out ka2_do)
  have HG := Lib.hid hb.size
  clear ht hb hal
  go_wp2_with fail
  refine CW.out.mono ?_
  rintro e w2 ⟨B2, n2, c2, rfl, ht, hb⟩
  have H2 := Lib.hid (ht.out.1 rfl)
  have HB2 := Lib.hid (HB1.out.trans (hb.mono HB1.out.size))
  have ht2 := HT1.out.on hb
  have HT2 := Lib.hid ht2
  have x0 := ht2.c0
  have x1 := ht2.fz 0
  have hG2 := ht2.lt
  clear ht hb CW HB1 H1 HTB HT1 HST
  go_wp2_with fail
  have hts := ht2.set B2 n2 c2
  have H3 := Lib.hid (T.set H2.out ht2 (grown_cell w2 w1.heap.size 0 (.slice B2 n2 c2)))
  have HB3 := Lib.hid (below_set (i := 0) (v := .slice B2 n2 c2) HB2.out HG.out HB2.out.size)
  have HT3 := Lib.hid hts
  clear ht2 hts x0 x1 hG2 HT2 H2 HB2
  generalize w2.setCell ⟨w1.heap.size, 0, none⟩ (.slice B2 n2 c2) = w3 at *
  refine (T.move B2 n2 c2 ka2 ⟨#[97, 47, 98]⟩ ⟨#[99]⟩ 0 ka3 w3 H3.out (by decide) (by decide) (by decide) ka3_do).mono ?_
  rintro e w4 ⟨B4, n4, c4, rfl, ht, hb⟩
  have hal : Below w4.heap.size w4 (w4.alloc (.cells #[.slice B4 n4 c4] 25)) := (Below.refl _ _).alloc (Nat.le_refl _) _
  have hb5 := hb.trans (hal.mono hb.size)
  have H5 := Lib.hid (T.on (ht.out.1 rfl) hal)
  have H5t := Lib.hid (T.on H3.out hb5)
  have HB5 := Lib.hid (HB3.out.trans (hb5.mono HB3.out.size))
  have HT5 := Lib.hid (HT3.out.on hb5)
  have HU5 := Lib.hid (TAt.new_ w4 B4 n4 c4)
  have hGu := Lib.hid (Nat.lt_of_lt_of_le HT3.out.lt hb.size)
  clear ht hb hal hb5 H3 HB3 HT3
  go_wp2_with fail
  generalize hwu : w4.alloc (.cells #[.slice B4 n4 c4] 25) = w5 at *
  clear hwu
  refine (T.get B4 n4 c4 ka3 ⟨#[99]⟩ w5 H5.out (by decide) (by decide)).mono ?_
  rw [show (ka3.find? fun k => decide (k.1 = (⟨#[99]⟩ : ByteArray).data.toList)) = some ([99], false, [[120]]) from by decide]
  rintro e w6 ⟨f, rfl, hf, hb⟩
  have hkey := hf.out.2 _ rfl
  have hlen : f.ls.length = 1 := by
    have : f.ls = [[120]] := congrArg (fun k : PF => k.2.2) hkey
    rw [this]
    rfl
  have HLN := Lib.hid hlen
  have hal : Below w6.heap.size w6 (w6.alloc (.cells #[.string f.p, .bool f.d, .slice f.a f.ls.length f.c] 41)) := (Below.refl _ _).alloc (Nat.le_refl _) _
  have hb7 := hb.trans (hal.mono hb.size)
  have H7 := Lib.hid (T.on H5.out hb7)
  have H7t := Lib.hid (T.on H5t.out hb7)
  have HB7 := Lib.hid (HB5.out.trans (hb7.mono HB5.out.size))
  have HT7 := Lib.hid (HT5.out.on hb7)
  have HU7 := Lib.hid (HU5.out.on hb7)
  have HX7 := Lib.hid (FileAt.new_ w6 f)
  clear hb hal hb7 H5 H5t HB5 HT5 HU5 hf hkey hlen
  have u0 := HU7.out.c0
  go_wp2_with fail
  have HX7 : Hid (FileAt (w6.alloc (.cells #[.string f.p, .bool f.d, .slice f.a f.ls.length f.c] 41)) w6.heap.size f) := HX7
  generalize hwu : w6.alloc (.cells #[.string f.p, .bool f.d, .slice f.a f.ls.length f.c] 41) = w7 at *
  clear hwu
  refine (T.size B4 n4 c4 ka3 w7 H7.out (by decide)).mono ?_
  rw [show filesK ka3 = 1 from by decide, show dirsK ka3 = 1 from by decide]
  rintro e w8 ⟨rfl, hb⟩
  have H8t := Lib.hid (T.on H7t.out hb)
  have HB8 := Lib.hid (HB7.out.trans (hb.mono HB7.out.size))
  have HT8 := Lib.hid (HT7.out.on hb)
  have HX8 := Lib.hid (HX7.out.on hb)
  clear hb H7 H7t HB7 HT7 HU7 HX7 u0
  have t0 := HT8.out.c0
  have y0 := HX8.out.c2
  rw [HLN.out] at y0
  go_wp2_with fail
  refine (T.in_ B2 n2 c2 ka2 ⟨#[97]⟩ w8 H8t.out (by decide) (by decide)).mono ?_
  rw [show inK ka2 (⟨#[97]⟩ : ByteArray).data.toList = [[97, 47, 98]] from by decide +kernel]
  rintro e w9 ⟨A9, k9, rfl, _, _, hb⟩
  have H9t := Lib.hid (T.on H8t.out hb)
  have HB9 := Lib.hid (HB8.out.trans (hb.mono HB8.out.size))
  have HT9 := Lib.hid (HT8.out.on hb)
  clear hb H8t HB8 HT8 t0 y0 HX8
  have t0 := HT9.out.c0
  go_wp2_with fail
  refine (T.same B2 n2 c2 ka2 B2 n2 c2 ka2 w9 H9t.out H9t.out (by decide) (by decide)).mono ?_
  rw [decide_eq_true rfl]
  rintro e w10 ⟨rfl, hb⟩
  have HB10 := Lib.hid (HB9.out.trans (hb.mono HB9.out.size))
  clear hb H9t HB9 HT9 t0
  go_wp2
  go_ret
  exact ⟨rfl, HB10.out⟩
end Go.Proofs.YtcjiipmageddhaaDoor
