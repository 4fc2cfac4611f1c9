/- name.Set: the texts as a set, in a row of its own. Package commute's Can, Apart, Touches. Package seq's Touched; package commute's Touches of any step. The statements of layer 10: awake. What a slice of strings that comes in holds. -/
import Derived.Test.YtalabahjfmcnbaaGreatDoorShelf
import Derived.Sort.OwnSorted
import Derived.Deep.LoopGhost
import Derived.Deep.QuietTactic
import Derived.BigQuiet
import Derived.Handy
import Derived.WalkKit
import Derived.Laws.Cover1
import Derived.Deep.RegionHeld3
import Derived.Deep.DrawnRows
import Derived.Deep.RegionLaw
import Derived.ChangeOld
import Derived.SliceStrings
import Derived.WideShapes
import Derived.Test.YtalabahjfmcnbaaGreatDoorCk20
namespace Go.Proofs.YtalabahjfmcnbaaGreatDoor
open Go.RowKit Go.Sort
set_option linter.unusedVariables false

/-- What Set leaves. -/
def SetLeft (w : World) (ls : List (List UInt8)) (e : Ending) (w' : World) : Prop :=
  ∃ v, e = .returned v ∧ OwnS w' w.heap.size v (setS ls) ∧ Below w.heap.size w w'

theorem setLeft_of {w w1 : World} {g cap n nn q : Nat} {os : Array Obj} {ss : List (List UInt8)} (hown : w1.ownsRow w.heap.size 9 1 (.slice (some ⟨g, 0, none⟩) n cap) n (ss.map encStr)) (hbel : Below w.heap.size w w1) (hbg : w.heap.size ≤ g) (hlen : ss.length = n) :
    SetLeft w ss (.returned (.slice (some ⟨g, 0, none⟩) (Lib.compact (ss.mergeSort fun x y => decide (x ≤ y))).length cap))
      (putRow encStr (Sort.ahead (grow (putRow encStr (Sort.ahead w1 nn) g 0 (ss.mergeSort fun x y => decide (x ≤ y)).toArray) os) q) g 0 (Lib.compact (ss.mergeSort fun x y => decide (x ≤ y)) ++ List.replicate (n - (Lib.compact (ss.mergeSort fun x y => decide (x ≤ y))).length) []).toArray) := by
  have hl2 : (ss.mergeSort fun x y => decide (x ≤ y)).length = ss.length := List.length_mergeSort ss
  have hle := Lib.compact_length_le (ss.mergeSort fun x y => decide (x ≤ y))
  subst hlen
  rcases hown.2 with ⟨h0, _⟩ | ⟨g', cap', cur, hv, hbase, hb, h1, h2, h3, h4⟩
  · cases h0
  cases hv
  have hs := ownsRow_sorted (n := nn) (os := os) (ts := ss.mergeSort fun x y => decide (x ≤ y)) hl2 hbase hb h1 h2 h3
  have hc := Lib.ownsRow_putRow (q := q) (k := (Lib.compact (ss.mergeSort fun x y => decide (x ≤ y))).length) (ys := Lib.compact (ss.mergeSort fun x y => decide (x ≤ y)) ++ List.replicate (ss.length - (Lib.compact (ss.mergeSort fun x y => decide (x ≤ y))).length) []) hs (by simp; omega) (by omega)
  rw [List.take_left] at hc
  refine ⟨_, rfl, ?_, Lib.below_putRow (hbel.grown (grownBy_sorted _) hbel.size (fun j hj => by cases hj; exact hbase)) hbg⟩
  unfold OwnS
  rw [← compact_sorted]
  exact hc

end Go.Proofs.YtalabahjfmcnbaaGreatDoor
namespace Go.Proofs.YtalabahjfmcnbaaGreatDoor
open Go.RowKit
set_option linter.unusedVariables false

set_option maxHeartbeats 8000000 in
set_option maxRecDepth 100000 in
theorem ctouches_any (x : Pm) (w : World) (ox : x.Ok w w.heap.size) (wx : WdK x.key) (hT : Tabs w) (hx0 : ckP x.key = 0) :
    Calls Tryz.prog 40 #[x.val] w (RowLeft w (touches x.key)) := by
  obtain ⟨hal, hx⟩ := box1 w x
  have CK := check_w (ox.on hal) wx (Tabs.on hT hal)
  rw [hx0] at CK
  have CT := fun W => ctouched_any x W
  generalize touches x.key = t at *
  clear ox wx hT hx0
  obtain ⟨kind, p, q, at_, a1, c1, old, a2, c2, new⟩ := x
  unfold Pm.val at CK CT ⊢
  simp only [] at CK CT ⊢
  have e0 : (w.alloc (.cells (Pm.cells ⟨kind, p, q, at_, a1, c1, old, a2, c2, new⟩).toArray 33)) = (w.alloc (.cells #[.int .i64 kind, .string p, .string q, .int .i64 at_, .slice a1 old.length c1, .slice a2 new.length c2] 33)) := rfl
  rw [e0] at hal hx CK
  have HX := Lib.hid hx
  have HA := Lib.hid hal
  have CK := Lib.hid CK
  have CT := Lib.hid CT
  clear hal hx e0
  go_enter Tryz.func40, Tryz.ntmps40
  go_wp2_with fail
  generalize (w.alloc (.cells #[.int .i64 kind, .string p, .string q, .int .i64 at_, .slice a1 old.length c1, .slice a2 new.length c2] 33)) = wa at *
  refine CK.out.mono ?_
  rintro e wb ⟨rfl, hb⟩
  replace HX := Lib.hid (HX.out.on hb)
  replace HA := Lib.hid (HA.out.trans (hb.mono HA.out.size))
  clear hb CK
  have b0 := HX.out.c0
  have b1 := HX.out.c1
  have b2 := HX.out.c2
  have b3 := HX.out.c3
  have b4 := HX.out.c4
  have b5 := HX.out.c5
  go_wp2_with fail
  clear b0 b1 b2 b3 b4 b5
  refine (CT.out wb).mono ?_
  rintro e wc ⟨A, c, rfl, hn, hs, hb⟩
  have HR : Hid (RowLeft w t (.returned (.slice A t.length c)) wc) := ⟨A, c, rfl, hn, hs, HA.out.trans (hb.mono HA.out.size)⟩
  clear hn hs hb
  go_wp2
  go_ret
  exact HR.out

end Go.Proofs.YtalabahjfmcnbaaGreatDoor
namespace Go.Proofs.YtalabahjfmcnbaaGreatDoor
open Go.RowKit Go.Sort
set_option linter.unusedVariables false

set_option maxHeartbeats 8000000 in
set_option maxRecDepth 100000 in
theorem ctouches_no (x : Pm) (w : World) (ox : x.Ok w w.heap.size) (wx : WdK x.key) (hT : Tabs w) (hx0 : ckP x.key ≠ 0) :
    Calls Tryz.prog 40 #[x.val] w (RowLeft w []) := by
  obtain ⟨hal, hx⟩ := box1 w x
  have CK := check_w (ox.on hal) wx (Tabs.on hT hal)
  have ke : (ckP x.key != 0) = true := by simpa using hx0
  generalize ckP x.key = n1 at *
  clear ox wx hT hx0
  obtain ⟨kind, p, q, at_, a1, c1, old, a2, c2, new⟩ := x
  unfold Pm.val at CK ⊢
  simp only [] at CK ⊢
  have e0 : (w.alloc (.cells (Pm.cells ⟨kind, p, q, at_, a1, c1, old, a2, c2, new⟩).toArray 33)) = (w.alloc (.cells #[.int .i64 kind, .string p, .string q, .int .i64 at_, .slice a1 old.length c1, .slice a2 new.length c2] 33)) := rfl
  rw [e0] at hal hx CK
  have HA := Lib.hid hal
  have CK := Lib.hid CK
  clear hal hx e0
  go_enter Tryz.func40, Tryz.ntmps40
  go_wp2_with fail
  generalize (w.alloc (.cells #[.int .i64 kind, .string p, .string q, .int .i64 at_, .slice a1 old.length c1, .slice a2 new.length c2] 33)) = wa at *
  refine CK.out.mono ?_
  rintro e wb ⟨rfl, hb⟩
  have HR : Hid (RowLeft w [] (.returned (.slice none 0 0)) wb) := ⟨none, 0, rfl, fun _ => rfl, Strs.none_, HA.out.trans (hb.mono HA.out.size)⟩
  clear hb CK HA
  go_wp2
  go_ret
  exact HR.out
theorem ctouch_w (x : Pm) (w : World) (ox : x.Ok w w.heap.size) (lx : LtK x.key) (hT : Tabs w) :
    Calls Tryz.prog 40 #[x.val] w (RowLeft w (touchesR x.key)) := by
  by_cases h : ckP x.key = 0
  · unfold touchesR
    rw [if_pos h]
    exact ctouches_any x w ox lx.wd hT h
  · unfold touchesR
    rw [if_neg h]
    exact ctouches_no x w ox lx.wd hT h
theorem touchesR_len (k : Pk) : (touchesR k).length ≤ 2 := by
  unfold touchesR touches
  split
  · split <;> simp
  · simp
theorem flatk_take (l : List Pk) (k : Nat) (h : k < l.length) : (l.take (k + 1)).flatMap touchesR = (l.take k).flatMap touchesR ++ touchesR l[k] := by
  rw [List.take_succ_eq_append_getElem h, List.flatMap_append]
  simp
set_option maxHeartbeats 8000000 in
set_option maxRecDepth 100000 in
theorem seqtouched_any (A : Option Addr) (l : List Pm) (n c : Nat) (w : World) (ha : RowW w A n c l) (hl : ∀ y ∈ l, LtK y.key) (hn : l.length ≤ 500) (hT : Tabs w) :
    Calls Tryz.prog 24 #[.slice A n c] w (RowLeft w (setS ((pkeys l).flatMap touchesR))) := by
  have hln := ha.len
  have hn5 : n ≤ 500 := by omega
  have HS := Lib.hid ha
  have HL := Lib.hid hl
  have HT := Lib.hid hT
  have HLN := Lib.hid hln
  clear ha hl hT hn hln
  go_enter Tryz.func24, Tryz.ntmps24
  go_wp2
  go_loopw [3, 8] (fun sv iv wr => ∃ (k : Nat) (A1 : Option Addr) (n1 c1 : Nat) (ls : List (List UInt8)), sv = .slice A1 n1 c1 ∧ iv = .int .i64 (k : Int) ∧ k ≤ n ∧ Hid (OwnS wr w.heap.size (.slice A1 n1 c1) ls ∧ ls = ((pkeys l).take k).flatMap touchesR ∧ ls.length ≤ 2 * k ∧ Below w.heap.size w wr)) (fun _ iv _ => n - (intOf iv).toNat)
  case atStart => exact ⟨0, none, 0, 0, [], rfl, rfl, Nat.zero_le _, OwnS.nil _ _, rfl, Nat.le_refl _, Below.refl _ _⟩
  case round =>
    obtain ⟨k, A1, n1, c1, ls, rfl, rfl, hk, HI⟩ := hrel
    by_cases hlt : k < n
    · have hkl : k < l.length := by have := HLN.out; omega
      have hS := HS.out.on HI.out.2.2.2
      obtain ⟨lb, lo, rfl, _, d0, d1, d2, d3, d4, d5⟩ := hS.at_.get hkl
      have hyo := hS.ok l[k] (List.getElem_mem _)
      have hyl := HL.out l[k] (List.getElem_mem _)
      have hft : ((pkeys l).take (k + 1)).flatMap touchesR = ls ++ touchesR l[k].key := by
        rw [flatk_take _ _ (by rw [pkeys_len]; exact hkl), HI.out.2.1]
        simp [pkeys]
      generalize l[k] = y at *
      have hal : Below wr.heap.size wr (wr.alloc (.cells #[.int .i64 y.kind, .string y.p, .string y.dst, .int .i64 y.at_, .slice y.a1 y.old.length y.c1, .slice y.a2 y.new.length y.c2] 33)) := (Below.refl _ _).alloc (Nat.le_refl _) _
      have CC := Lib.hid (ctouch_w y (wr.alloc (.cells #[.int .i64 y.kind, .string y.p, .string y.dst, .int .i64 y.at_, .slice y.a1 y.old.length y.c1, .slice y.a2 y.new.length y.c2] 33)) (hyo.on hal) hyl (Tabs.on HT.out (HI.out.2.2.2.trans (hal.mono HI.out.2.2.2.size))))
      have HFT := Lib.hid hft
      have HAL := Lib.hid hal
      have htl := touchesR_len y.key
      have u1 : (0 : Int) ≤ (k : Int) := by omega
      have u2 : (k : Int) < (n : Int) := by omega
      unfold Pm.val at CC
      clear hS hyo hyl hft hal
      go_wp2_with fail
      refine CC.out.mono ?_
      rintro e w2 ⟨A2, c2, rfl, hnil, hs2, hb2⟩
      have HB2 := Lib.hid (HI.out.2.2.2.trans ((HAL.out.trans (hb2.mono HAL.out.size)).mono HI.out.2.2.2.size))
      have HO2 := Lib.hid (HI.out.1.kept (HAL.out.trans (hb2.mono HAL.out.size)))
      have HN2 := Lib.hid hnil
      have HS2 := Lib.hid hs2
      have hle := HI.out.2.2.1
      obtain ⟨tt, htt⟩ : ∃ tt, touchesR y.key = tt := ⟨_, rfl⟩
      rw [htt] at HS2 HFT htl ⊢
      obtain ⟨M, hM⟩ : ∃ M, M = ls.length + tt.length := ⟨_, rfl⟩
      have HM := Lib.hid hM
      clear hnil hs2 hb2 HI CC HAL hM d0 d1 d2 d3 d4 d5
      go_wp2_with (at_builtin; refine wpList_append_row rfl _ _ rfl w.heap.size (.slice A1 n1 c1) ls tt rfl HO2.out A2 c2 tt.length rfl rfl HN2.out HS2.out HB2.out.size (by omega) M HM.out ?_)
      intro A3 c3 w3 ho3 _ hg3
      have HI3 : Hid (OwnS w3 w.heap.size (.slice A3 M c3) (ls ++ tt) ∧ ls ++ tt = ((pkeys l).take (k + 1)).flatMap touchesR ∧ (ls ++ tt).length ≤ 2 * (k + 1) ∧ Below w.heap.size w w3) := ⟨ho3, HFT.out.symm, by rw [List.length_append]; omega, below_append HB2.out HO2.out hg3 (Nat.le_refl _)⟩
      clear ho3 hg3 HO2 HN2 HS2 HB2 HM HFT
      go_wp2
      go_roundw
      case rel =>
        first
        | exact ⟨k + 1, A3, M, c3, ls ++ tt, rfl, by go_num, by omega, HI3.out⟩
        | ((repeat apply Exists.intro); exact ⟨⟨rfl, by go_num, by omega, HI3.out⟩, rfl⟩)
      case measure => simp [intOf]; omega
    · obtain rfl : k = n := by omega
      have hls : ls = (pkeys l).flatMap touchesR := by
        have := HI.out.2.1
        rw [HLN.out, ← pkeys_len, List.take_length] at this
        exact this
      have HLS := Lib.hid hls
      have hle : ls.length ≤ 1000 := by have := HI.out.2.2.1; omega
      clear hls
      by_cases hnil : (Value.slice A1 n1 c1) = .slice none 0 0
      · simp only [Value.slice.injEq] at hnil
        obtain ⟨rfl, rfl, rfl⟩ := hnil
        have h0 : ls = [] := by
          rcases HI.out.1.2 with ⟨_, h⟩ | ⟨_, _, _, e, _⟩
          · exact List.length_eq_zero_iff.1 h
          · cases e
        subst h0
        have HF : Hid (RowLeft w (setS ((pkeys l).flatMap touchesR)) (.returned (.slice none 0 0)) wr) := by
          show RowLeft _ _ _ _
          rw [← HLS.out]
          exact ⟨none, 0, rfl, fun _ => rfl, Strs.none_, HI.out.2.2.2⟩
        clear HI HLS
        go_wp2_with fail
        refine (Tryz.slices_Sort_string_none none 0 _).mono ?_
        rintro e w' ⟨rfl, rfl⟩
        go_wp2_with fail
        refine (Tryz.slices_Compact_string_empty none 0 _).mono ?_
        rintro e w' ⟨rfl, rfl⟩
        go_wp2
        go_ret
        exact HF.out
      · have hown := HI.out.1
        obtain ⟨g, cap, hv, hbg, hgl, hncap, hcm, hlen, hH⟩ := Lib.holds_of_ownsRow hown hnil
        simp only [Value.slice.injEq] at hv
        obtain ⟨rfl, rfl, rfl⟩ := hv
        have hsort := Tryz.slices_Sort_string g 0 c1 ls wr hH hgl (by omega)
        have X : Aside (wr.ownsRow w.heap.size 9 1 (.slice (some ⟨g, 0, none⟩) ls.length c1) ls.length (ls.map encStr) ∧ Below w.heap.size w wr ∧ w.heap.size ≤ g ∧ g < wr.heap.size ∧ ls.length ≤ c1 ∧ c1 ≤ maxLen ∧ Holds encStr wr g 0 ls.toArray) := ⟨hown, HI.out.2.2.2, hbg, hgl, hncap, hcm, hH⟩
        clear hown hH hnil HI
        go_wp2_with fail
        refine hsort.mono ?_
        rintro e w2 ⟨rfl, nn, os, rfl⟩
        have hl2 : (ls.mergeSort fun x y => decide (x ≤ y)).length = ls.length := List.length_mergeSort _
        have hH2 : Holds encStr (grow (putRow encStr (Sort.ahead wr nn) g 0 (ls.mergeSort fun x y => decide (x ≤ y)).toArray) os) g 0 (ls.mergeSort fun x y => decide (x ≤ y)).toArray :=
          holds_grow encStr _ os g 0 _ (by simpa [putRow, mapBlock, Sort.ahead] using X.out.2.2.2.1) (holds_putRow encStr _ g 0 _ _ (holds_ahead encStr wr nn g 0 _ X.out.2.2.2.2.2.2) (by simp))
        have hcomp := Tryz.slices_Compact_string g 0 c1 (ls.mergeSort fun x y => decide (x ≤ y)) _ hH2 (by omega) (by have := X.out.2.2.2.2.1; omega)
        rw [hl2] at hcomp
        clear hH2 hsort
        go_wp2_with fail
        refine hcomp.mono ?_
        rintro e w3 ⟨rfl, q, rfl⟩
        have HF := Lib.hid (own_row (setLeft_of (nn := nn) (q := q) (os := os) X.out.1 X.out.2.1 X.out.2.2.1 rfl))
        rw [HLS.out] at HF
        clear X hcomp hl2
        go_wp2
        go_ret
        rw [HLS.out]
        exact HF.out
end Go.Proofs.YtalabahjfmcnbaaGreatDoor
namespace Go.Proofs.YtalabahjfmcnbaaGreatDoor
open Go.RowKit
set_option linter.unusedVariables false

def kF : Pk := ⟨3, [97], [], 0, [], []⟩
def kH : Pk := ⟨6, [97], [], 0, [], [[120]]⟩
def kD : Pk := ⟨1, [100], [], 0, [], []⟩
theorem kNeeds : needsI [kF, kD, kH] 2 = [0] := by decide +kernel
theorem kFront : frontI [kF, kD] 1 = (0, [kD, kF]) := by decide +kernel
theorem kClash : frontI [kF, kH] 1 = (13, []) := by decide +kernel
theorem kTouched : (setS ([kF, kH, kD].flatMap touchesR)).length = 2 := by decide +kernel
theorem kF_lt : LtK kF := ⟨by decide, by decide, ⟨by decide, by simp [kF]⟩, ⟨by decide, by simp [kF]⟩⟩
theorem kH_lt : LtK kH := ⟨by decide, by decide, ⟨by decide, by simp [kH]⟩, ⟨by decide, by simp [kH]⟩⟩
theorem kD_lt : LtK kD := ⟨by decide, by decide, ⟨by decide, by simp [kD]⟩, ⟨by decide, by simp [kD]⟩⟩
def xF : Pm := ⟨3, ⟨#[97]⟩, ⟨#[]⟩, 0, none, 0, [], none, 0, []⟩
def xH (g : Nat) : Pm := ⟨6, ⟨#[97]⟩, ⟨#[]⟩, 0, none, 0, [], some ⟨g, 0, none⟩, 1, [[120]]⟩
def xD : Pm := ⟨1, ⟨#[100]⟩, ⟨#[]⟩, 0, none, 0, [], none, 0, []⟩
theorem aw10_made (w : World) : Below w.heap.size w ((((w.alloc (.cells #[.int .i64 3, .string ⟨#[97]⟩, .string ⟨#[]⟩, .int .i64 0, .slice none 0 0, .slice none 0 0] 33)).alloc (.cells #[.string ⟨#[120]⟩] 9)).alloc (.cells #[.int .i64 6, .string ⟨#[97]⟩, .string ⟨#[]⟩, .int .i64 0, .slice none 0 0, .slice (some ⟨w.heap.size + 1, 0, none⟩) 1 1] 33)).alloc (.cells #[.int .i64 1, .string ⟨#[100]⟩, .string ⟨#[]⟩, .int .i64 0, .slice none 0 0, .slice none 0 0] 33)) ∧ HeldP ((((w.alloc (.cells #[.int .i64 3, .string ⟨#[97]⟩, .string ⟨#[]⟩, .int .i64 0, .slice none 0 0, .slice none 0 0] 33)).alloc (.cells #[.string ⟨#[120]⟩] 9)).alloc (.cells #[.int .i64 6, .string ⟨#[97]⟩, .string ⟨#[]⟩, .int .i64 0, .slice none 0 0, .slice (some ⟨w.heap.size + 1, 0, none⟩) 1 1] 33)).alloc (.cells #[.int .i64 1, .string ⟨#[100]⟩, .string ⟨#[]⟩, .int .i64 0, .slice none 0 0, .slice none 0 0] 33)) (w.heap.size) xF ∧ HeldP ((((w.alloc (.cells #[.int .i64 3, .string ⟨#[97]⟩, .string ⟨#[]⟩, .int .i64 0, .slice none 0 0, .slice none 0 0] 33)).alloc (.cells #[.string ⟨#[120]⟩] 9)).alloc (.cells #[.int .i64 6, .string ⟨#[97]⟩, .string ⟨#[]⟩, .int .i64 0, .slice none 0 0, .slice (some ⟨w.heap.size + 1, 0, none⟩) 1 1] 33)).alloc (.cells #[.int .i64 1, .string ⟨#[100]⟩, .string ⟨#[]⟩, .int .i64 0, .slice none 0 0, .slice none 0 0] 33)) (w.heap.size + 1 + 1) (xH (w.heap.size + 1)) ∧ HeldP ((((w.alloc (.cells #[.int .i64 3, .string ⟨#[97]⟩, .string ⟨#[]⟩, .int .i64 0, .slice none 0 0, .slice none 0 0] 33)).alloc (.cells #[.string ⟨#[120]⟩] 9)).alloc (.cells #[.int .i64 6, .string ⟨#[97]⟩, .string ⟨#[]⟩, .int .i64 0, .slice none 0 0, .slice (some ⟨w.heap.size + 1, 0, none⟩) 1 1] 33)).alloc (.cells #[.int .i64 1, .string ⟨#[100]⟩, .string ⟨#[]⟩, .int .i64 0, .slice none 0 0, .slice none 0 0] 33)) (w.heap.size + 1 + 1 + 1) xD := by
  have p1 : PrimAt (w.alloc (.cells #[.int .i64 3, .string ⟨#[97]⟩, .string ⟨#[]⟩, .int .i64 0, .slice none 0 0, .slice none 0 0] 33)) w.heap.size xF := PrimAt.new_ w xF
  have z1 : (w.alloc (.cells #[.int .i64 3, .string ⟨#[97]⟩, .string ⟨#[]⟩, .int .i64 0, .slice none 0 0, .slice none 0 0] 33)).heap.size = w.heap.size + 1 := World.size_alloc _ _
  have b1 : Below w.heap.size w (w.alloc (.cells #[.int .i64 3, .string ⟨#[97]⟩, .string ⟨#[]⟩, .int .i64 0, .slice none 0 0, .slice none 0 0] 33)) := (Below.refl _ _).alloc (Nat.le_refl _) _
  generalize (w.alloc (.cells #[.int .i64 3, .string ⟨#[97]⟩, .string ⟨#[]⟩, .int .i64 0, .slice none 0 0, .slice none 0 0] 33)) = w1 at *
  have s2 := strs_one w1 ⟨#[120]⟩
  have z2 : (w1.alloc (.cells #[.string ⟨#[120]⟩] 9)).heap.size = w1.heap.size + 1 := World.size_alloc _ _
  have b2 : Below w1.heap.size w1 (w1.alloc (.cells #[.string ⟨#[120]⟩] 9)) := (Below.refl _ _).alloc (Nat.le_refl _) _
  generalize (w1.alloc (.cells #[.string ⟨#[120]⟩] 9)) = w2 at *
  have p3 : PrimAt (w2.alloc (.cells #[.int .i64 6, .string ⟨#[97]⟩, .string ⟨#[]⟩, .int .i64 0, .slice none 0 0, .slice (some ⟨w.heap.size + 1, 0, none⟩) 1 1] 33)) w2.heap.size (xH (w.heap.size + 1)) := PrimAt.new_ w2 (xH (w.heap.size + 1))
  have z3 : (w2.alloc (.cells #[.int .i64 6, .string ⟨#[97]⟩, .string ⟨#[]⟩, .int .i64 0, .slice none 0 0, .slice (some ⟨w.heap.size + 1, 0, none⟩) 1 1] 33)).heap.size = w2.heap.size + 1 := World.size_alloc _ _
  have b3 : Below w2.heap.size w2 (w2.alloc (.cells #[.int .i64 6, .string ⟨#[97]⟩, .string ⟨#[]⟩, .int .i64 0, .slice none 0 0, .slice (some ⟨w.heap.size + 1, 0, none⟩) 1 1] 33)) := (Below.refl _ _).alloc (Nat.le_refl _) _
  generalize (w2.alloc (.cells #[.int .i64 6, .string ⟨#[97]⟩, .string ⟨#[]⟩, .int .i64 0, .slice none 0 0, .slice (some ⟨w.heap.size + 1, 0, none⟩) 1 1] 33)) = w3 at *
  have p4 : PrimAt (w3.alloc (.cells #[.int .i64 1, .string ⟨#[100]⟩, .string ⟨#[]⟩, .int .i64 0, .slice none 0 0, .slice none 0 0] 33)) w3.heap.size xD := PrimAt.new_ w3 xD
  have b4 : Below w3.heap.size w3 (w3.alloc (.cells #[.int .i64 1, .string ⟨#[100]⟩, .string ⟨#[]⟩, .int .i64 0, .slice none 0 0, .slice none 0 0] 33)) := (Below.refl _ _).alloc (Nat.le_refl _) _
  generalize (w3.alloc (.cells #[.int .i64 1, .string ⟨#[100]⟩, .string ⟨#[]⟩, .int .i64 0, .slice none 0 0, .slice none 0 0] 33)) = w4 at *
  rw [z1] at s2 z2
  rw [z2] at p3 z3
  rw [z3] at p4
  have b34 := b3.trans (b4.mono b3.size)
  have b24 := b2.trans (b34.mono b2.size)
  have b14 := b1.trans (b24.mono b1.size)
  exact ⟨b14, ⟨p1.on b24, (sep_bare w4 3 ⟨#[97]⟩ ⟨#[]⟩ (by decide) (by decide) (by decide) (by decide)).1⟩, ⟨p3.on b4, ⟨⟨Strs.none_, s2.on b34, ⟨fun _ => rfl, Nat.le_refl _⟩, ⟨(fun e => by cases e), Nat.le_refl _⟩, (show (-9223372036854775808 : Int) ≤ 0 by decide), (show (0 : Int) ≤ 9223372036854775807 by decide), (show (0 : Nat) ≤ 9223372036854775807 by decide), (show (1 : Nat) ≤ 9223372036854775807 by decide)⟩, (show (1 : Nat) ≤ 9223372036854775807 by decide), (show (0 : Nat) ≤ 9223372036854775807 by decide), (show (-9223372036854775808 : Int) ≤ 6 by decide), (show (6 : Int) ≤ 9223372036854775807 by decide)⟩⟩, ⟨p4, (sep_bare w4 1 ⟨#[100]⟩ ⟨#[]⟩ (by decide) (by decide) (by decide) (by decide)).1⟩⟩
theorem prow3 {w : World} {x y z : Pm} (ox : x.Ok w w.heap.size) (oy : y.Ok w w.heap.size) (oz : z.Ok w w.heap.size) : RowW (w.alloc (.cells #[.int .i64 x.kind, .string x.p, .string x.dst, .int .i64 x.at_, .slice x.a1 x.old.length x.c1, .slice x.a2 x.new.length x.c2, .int .i64 y.kind, .string y.p, .string y.dst, .int .i64 y.at_, .slice y.a1 y.old.length y.c1, .slice y.a2 y.new.length y.c2, .int .i64 z.kind, .string z.p, .string z.dst, .int .i64 z.at_, .slice z.a1 z.old.length z.c1, .slice z.a2 z.new.length z.c2] 33)) (some ⟨w.heap.size, 0, none⟩) 3 3 [x, y, z] := by
  have h := row_three ox oy oz
  exact ⟨rfl, h, ⟨(fun e => by cases e), Nat.le_refl _⟩, fun r hr => h.ok r hr⟩
theorem prow2 {w : World} {x y : Pm} (ox : x.Ok w w.heap.size) (oy : y.Ok w w.heap.size) : RowW (w.alloc (.cells #[.int .i64 x.kind, .string x.p, .string x.dst, .int .i64 x.at_, .slice x.a1 x.old.length x.c1, .slice x.a2 x.new.length x.c2, .int .i64 y.kind, .string y.p, .string y.dst, .int .i64 y.at_, .slice y.a1 y.old.length y.c1, .slice y.a2 y.new.length y.c2] 33)) (some ⟨w.heap.size, 0, none⟩) 2 2 [x, y] := by
  have h := row_two ox oy
  exact ⟨rfl, h, ⟨(fun e => by cases e), Nat.le_refl _⟩, fun r hr => h.ok r hr⟩
set_option maxHeartbeats 20000000 in
set_option maxRecDepth 100000 in
theorem sawake_any (w : World) (hT : Tabs w) : Calls Tryz.prog 7 #[] w fun e w' => e = .returned (.bool true) ∧ Below w.heap.size w w' := by
  obtain ⟨ha, hf, hh, hd⟩ := aw10_made w
  have HA := Lib.hid ha
  have HT := Lib.hid (Tabs.on hT ha)
  have hkf : xF.key = kF := rfl
  have hkh : (xH (w.heap.size + 1)).key = kH := rfl
  have hkd : xD.key = kD := rfl
  go_enter Tryz.func7, Tryz.ntmps7
  go_upto_region 4 with (fail)
  generalize ((((w.alloc (.cells #[.int .i64 3, .string ⟨#[97]⟩, .string ⟨#[]⟩, .int .i64 0, .slice none 0 0, .slice none 0 0] 33)).alloc (.cells #[.string ⟨#[120]⟩] 9)).alloc (.cells #[.int .i64 6, .string ⟨#[97]⟩, .string ⟨#[]⟩, .int .i64 0, .slice none 0 0, .slice (some ⟨w.heap.size + 1, 0, none⟩) 1 1] 33)).alloc (.cells #[.int .i64 1, .string ⟨#[100]⟩, .string ⟨#[]⟩, .int .i64 0, .slice none 0 0, .slice none 0 0] 33)) = wa at *
  generalize (xH (w.heap.size + 1)) = xh at *
  generalize xF = xf at *
  generalize xD = xd at *
  generalize w.heap.size + 1 + 1 = gh at *
  generalize w.heap.size + 1 + 1 + 1 = gd at *
  have HF := Lib.hid hf
  have HH := Lib.hid hh
  have HD := Lib.hid hd
  have HK : Hid (xf.key = kF ∧ xh.key = kH ∧ xd.key = kD) := ⟨hkf, hkh, hkd⟩
  have HLF : Hid (LtK xf.key) := by show LtK _; rw [hkf]; exact kF_lt
  have HLH : Hid (LtK xh.key) := by show LtK _; rw [hkh]; exact kH_lt
  have HLD : Hid (LtK xd.key) := by show LtK _; rw [hkd]; exact kD_lt
  clear ha hf hh hd hkf hkh hkd hT
  have f0 := HF.out.1.c0
  have f1 := HF.out.1.c1
  have f2 := HF.out.1.c2
  have f3 := HF.out.1.c3
  have f4 := HF.out.1.c4
  have f5 := HF.out.1.c5
  have h0 := HH.out.1.c0
  have h1 := HH.out.1.c1
  have h2 := HH.out.1.c2
  have h3 := HH.out.1.c3
  have h4 := HH.out.1.c4
  have h5 := HH.out.1.c5
  have d0 := HD.out.1.c0
  have d1 := HD.out.1.c1
  have d2 := HD.out.1.c2
  have d3 := HD.out.1.c3
  have d4 := HD.out.1.c4
  have d5 := HD.out.1.c5
  have hal1 : Below wa.heap.size wa (wa.alloc (.cells #[.int .i64 xf.kind, .string xf.p, .string xf.dst, .int .i64 xf.at_, .slice xf.a1 xf.old.length xf.c1, .slice xf.a2 xf.new.length xf.c2, .int .i64 xd.kind, .string xd.p, .string xd.dst, .int .i64 xd.at_, .slice xd.a1 xd.old.length xd.c1, .slice xd.a2 xd.new.length xd.c2, .int .i64 xh.kind, .string xh.p, .string xh.dst, .int .i64 xh.at_, .slice xh.a1 xh.old.length xh.c1, .slice xh.a2 xh.new.length xh.c2] 33)) := (Below.refl _ _).alloc (Nat.le_refl _) _
  have CN := Lib.hid (seqneeds_any _ [xf, xd, xh] 3 3 2 (wa.alloc (.cells #[.int .i64 xf.kind, .string xf.p, .string xf.dst, .int .i64 xf.at_, .slice xf.a1 xf.old.length xf.c1, .slice xf.a2 xf.new.length xf.c2, .int .i64 xd.kind, .string xd.p, .string xd.dst, .int .i64 xd.at_, .slice xd.a1 xd.old.length xd.c1, .slice xd.a2 xd.new.length xd.c2, .int .i64 xh.kind, .string xh.p, .string xh.dst, .int .i64 xh.at_, .slice xh.a1 xh.old.length xh.c1, .slice xh.a2 xh.new.length xh.c2] 33)) (prow3 HF.out.2 HD.out.2 HH.out.2) (fun y hy => by
    simp only [List.mem_cons, List.not_mem_nil, or_false] at hy
    rcases hy with rfl | rfl | rfl
    · exact HLF.out
    · exact HLD.out
    · exact HLH.out) (by simp) (Tabs.on HT.out hal1))
  have HAL := Lib.hid hal1
  clear hal1
  go_wp2_with fail
  refine CN.out.mono ?_
  rintro e w1 ⟨A1, n1, c1, rfl, hr, hb⟩
  have hr1 := hr.out
  rw [show pkeys [xf, xd, xh] = [xf.key, xd.key, xh.key] from rfl, HK.out.1, HK.out.2.1, HK.out.2.2, kNeeds] at hr1
  have hn1 : n1 = 1 := hr1.len
  subst hn1
  have HR1 := Lib.hid hr1
  have hbl := HAL.out.trans (hb.mono HAL.out.size)
  clear f0 f1 f2 f3 f4 f5 h0 h1 h2 h3 h4 h5 d0 d1 d2 d3 d4 d5
  replace HF := Lib.hid (HF.out.on hbl)
  replace HH := Lib.hid (HH.out.on hbl)
  replace HD := Lib.hid (HD.out.on hbl)
  replace HA := Lib.hid (HA.out.trans (hbl.mono HA.out.size))
  replace HT := Lib.hid (Tabs.on HT.out hbl)
  clear hr hr1 hb hbl CN HAL
  have f0 := HF.out.1.c0
  have f1 := HF.out.1.c1
  have f2 := HF.out.1.c2
  have f3 := HF.out.1.c3
  have f4 := HF.out.1.c4
  have f5 := HF.out.1.c5
  have d0 := HD.out.1.c0
  have d1 := HD.out.1.c1
  have d2 := HD.out.1.c2
  have d3 := HD.out.1.c3
  have d4 := HD.out.1.c4
  have d5 := HD.out.1.c5
  have hal1 : Below w1.heap.size w1 (w1.alloc (.cells #[.int .i64 xf.kind, .string xf.p, .string xf.dst, .int .i64 xf.at_, .slice xf.a1 xf.old.length xf.c1, .slice xf.a2 xf.new.length xf.c2, .int .i64 xd.kind, .string xd.p, .string xd.dst, .int .i64 xd.at_, .slice xd.a1 xd.old.length xd.c1, .slice xd.a2 xd.new.length xd.c2] 33)) := (Below.refl _ _).alloc (Nat.le_refl _) _
  have CN := Lib.hid (seqfront_any _ [xf, xd] 2 2 1 (w1.alloc (.cells #[.int .i64 xf.kind, .string xf.p, .string xf.dst, .int .i64 xf.at_, .slice xf.a1 xf.old.length xf.c1, .slice xf.a2 xf.new.length xf.c2, .int .i64 xd.kind, .string xd.p, .string xd.dst, .int .i64 xd.at_, .slice xd.a1 xd.old.length xd.c1, .slice xd.a2 xd.new.length xd.c2] 33)) (prow2 HF.out.2 HD.out.2) (fun y hy => by
    simp only [List.mem_cons, List.not_mem_nil, or_false] at hy
    rcases hy with rfl | rfl
    · exact HLF.out
    · exact HLD.out) (by simp) (Tabs.on HT.out hal1))
  have HAL := Lib.hid hal1
  clear hal1
  go_wp2_with fail
  refine CN.out.mono ?_
  rintro e w2 ⟨A2, n2, c2, rs, er, rfl, hr, hb⟩
  obtain ⟨hr2, hk2⟩ := hr.out
  rw [show pkeys [xf, xd] = [xf.key, xd.key] from rfl, HK.out.1, HK.out.2.2, kFront] at hk2
  simp only [Prod.mk.injEq] at hk2
  obtain ⟨rfl, hk2⟩ := hk2
  obtain ⟨r0, r1, rfl⟩ : ∃ r0 r1, rs = [r0, r1] := by
    have := congrArg List.length hk2
    rw [pkeys_len] at this
    rcases rs with _ | ⟨a, _ | ⟨b, _ | ⟨c, t⟩⟩⟩
    · simp only [List.length_cons, List.length_nil] at this; omega
    · simp only [List.length_cons, List.length_nil] at this; omega
    · exact ⟨a, b, rfl⟩
    · simp only [List.length_cons, List.length_nil] at this; omega
  have hkind : r0.kind = 1 := by
    have h : kD :: [kF] = r0.key :: [r1.key] := hk2
    exact (congrArg Pk.kind (List.cons.inj h).1).symm
  have hn2 : n2 = 2 := hr2.len
  subst hn2
  have HR2 := Lib.hid hr2
  have HKI := Lib.hid hkind
  have hbl := HAL.out.trans (hb.mono HAL.out.size)
  replace HR1 := Lib.hid (HR1.out.on hbl)
  clear f0 f1 f2 f3 f4 f5 d0 d1 d2 d3 d4 d5
  replace HF := Lib.hid (HF.out.on hbl)
  replace HH := Lib.hid (HH.out.on hbl)
  replace HD := Lib.hid (HD.out.on hbl)
  replace HA := Lib.hid (HA.out.trans (hbl.mono HA.out.size))
  replace HT := Lib.hid (Tabs.on HT.out hbl)
  clear hr hr2 hk2 hkind hb hbl CN HAL
  have f0 := HF.out.1.c0
  have f1 := HF.out.1.c1
  have f2 := HF.out.1.c2
  have f3 := HF.out.1.c3
  have f4 := HF.out.1.c4
  have f5 := HF.out.1.c5
  have h0 := HH.out.1.c0
  have h1 := HH.out.1.c1
  have h2 := HH.out.1.c2
  have h3 := HH.out.1.c3
  have h4 := HH.out.1.c4
  have h5 := HH.out.1.c5
  have hal1 : Below w2.heap.size w2 (w2.alloc (.cells #[.int .i64 xf.kind, .string xf.p, .string xf.dst, .int .i64 xf.at_, .slice xf.a1 xf.old.length xf.c1, .slice xf.a2 xf.new.length xf.c2, .int .i64 xh.kind, .string xh.p, .string xh.dst, .int .i64 xh.at_, .slice xh.a1 xh.old.length xh.c1, .slice xh.a2 xh.new.length xh.c2] 33)) := (Below.refl _ _).alloc (Nat.le_refl _) _
  have CN := Lib.hid (seqfront_any _ [xf, xh] 2 2 1 (w2.alloc (.cells #[.int .i64 xf.kind, .string xf.p, .string xf.dst, .int .i64 xf.at_, .slice xf.a1 xf.old.length xf.c1, .slice xf.a2 xf.new.length xf.c2, .int .i64 xh.kind, .string xh.p, .string xh.dst, .int .i64 xh.at_, .slice xh.a1 xh.old.length xh.c1, .slice xh.a2 xh.new.length xh.c2] 33)) (prow2 HF.out.2 HH.out.2) (fun y hy => by
    simp only [List.mem_cons, List.not_mem_nil, or_false] at hy
    rcases hy with rfl | rfl
    · exact HLF.out
    · exact HLH.out) (by simp) (Tabs.on HT.out hal1))
  have HAL := Lib.hid hal1
  clear hal1
  go_wp2_with fail
  refine CN.out.mono ?_
  rintro e w3 ⟨A3, n3, c3, rs3, er3, rfl, hr, hb⟩
  obtain ⟨hr3, hk3⟩ := hr.out
  rw [show pkeys [xf, xh] = [xf.key, xh.key] from rfl, HK.out.1, HK.out.2.1, kClash] at hk3
  simp only [Prod.mk.injEq] at hk3
  obtain ⟨rfl, hk3⟩ := hk3
  have hbl := HAL.out.trans (hb.mono HAL.out.size)
  replace HR1 := Lib.hid (HR1.out.on hbl)
  replace HR2 := Lib.hid (HR2.out.on hbl)
  clear f0 f1 f2 f3 f4 f5 h0 h1 h2 h3 h4 h5
  replace HF := Lib.hid (HF.out.on hbl)
  replace HH := Lib.hid (HH.out.on hbl)
  replace HD := Lib.hid (HD.out.on hbl)
  replace HA := Lib.hid (HA.out.trans (hbl.mono HA.out.size))
  replace HT := Lib.hid (Tabs.on HT.out hbl)
  clear hr hr3 hk3 hb hbl CN HAL
  have f0 := HF.out.1.c0
  have f1 := HF.out.1.c1
  have f2 := HF.out.1.c2
  have f3 := HF.out.1.c3
  have f4 := HF.out.1.c4
  have f5 := HF.out.1.c5
  have h0 := HH.out.1.c0
  have h1 := HH.out.1.c1
  have h2 := HH.out.1.c2
  have h3 := HH.out.1.c3
  have h4 := HH.out.1.c4
  have h5 := HH.out.1.c5
  have d0 := HD.out.1.c0
  have d1 := HD.out.1.c1
  have d2 := HD.out.1.c2
  have d3 := HD.out.1.c3
  have d4 := HD.out.1.c4
  have d5 := HD.out.1.c5
  obtain ⟨nb, no, rfl, _, hc⟩ := HR1.out.at_ (by simp)
  have hn0 : w3.cell? ⟨nb, no, none⟩ = some (.int .i64 0) := by
    have := hc 0 (by simp)
    simpa [intV] using this
  obtain ⟨qb, qo, rfl, _, q0, _, _, _, _, _⟩ := HR2.out.at_.get (j := 0) (by simp)
  simp only [List.getElem_cons_zero, Nat.zero_mul, Nat.add_zero, HKI.out] at q0
  have hal1 : Below w3.heap.size w3 (w3.alloc (.cells #[.int .i64 xf.kind, .string xf.p, .string xf.dst, .int .i64 xf.at_, .slice xf.a1 xf.old.length xf.c1, .slice xf.a2 xf.new.length xf.c2, .int .i64 xh.kind, .string xh.p, .string xh.dst, .int .i64 xh.at_, .slice xh.a1 xh.old.length xh.c1, .slice xh.a2 xh.new.length xh.c2, .int .i64 xd.kind, .string xd.p, .string xd.dst, .int .i64 xd.at_, .slice xd.a1 xd.old.length xd.c1, .slice xd.a2 xd.new.length xd.c2] 33)) := (Below.refl _ _).alloc (Nat.le_refl _) _
  have CN := seqtouched_any _ [xf, xh, xd] 3 3 (w3.alloc (.cells #[.int .i64 xf.kind, .string xf.p, .string xf.dst, .int .i64 xf.at_, .slice xf.a1 xf.old.length xf.c1, .slice xf.a2 xf.new.length xf.c2, .int .i64 xh.kind, .string xh.p, .string xh.dst, .int .i64 xh.at_, .slice xh.a1 xh.old.length xh.c1, .slice xh.a2 xh.new.length xh.c2, .int .i64 xd.kind, .string xd.p, .string xd.dst, .int .i64 xd.at_, .slice xd.a1 xd.old.length xd.c1, .slice xd.a2 xd.new.length xd.c2] 33)) (prow3 HF.out.2 HH.out.2 HD.out.2) (fun y hy => by
    simp only [List.mem_cons, List.not_mem_nil, or_false] at hy
    rcases hy with rfl | rfl | rfl
    · exact HLF.out
    · exact HLH.out
    · exact HLD.out) (by simp) (Tabs.on HT.out hal1)
  have hl := kTouched
  rw [← HK.out.1, ← HK.out.2.1, ← HK.out.2.2] at hl
  rw [show pkeys [xf, xh, xd] = [xf.key, xh.key, xd.key] from rfl] at CN
  generalize setS ([xf.key, xh.key, xd.key].flatMap touchesR) = ls at *
  have CN := Lib.hid CN
  have HAL := Lib.hid hal1
  clear hal1 hc HR1 HR2
  go_wp2_with (go_at_call 24; refine CN.out.mono ?_; rintro e w4 ⟨A4, c4, rfl, _, _, hb⟩; have HB := Lib.hid (HA.out.trans ((HAL.out.trans (hb.mono HAL.out.size)).mono HA.out.size)); clear hb)
  go_ret
  exact ⟨rfl, HB.out⟩
end Go.Proofs.YtalabahjfmcnbaaGreatDoor
namespace Go.Proofs.YtalabahjfmcnbaaGreatDoor
open Go.ChangeShapes Go.WideShapes Go.RowKit
set_option linter.unusedVariables false

theorem open_strs {H : Type} {enc : TypeId × Value → H} {W : World} {fuel : Nat} {v : Value} {y : DataW H × List MemPlace} (hf : DataW.trod enc Tryz.prog W 0 (fun _ => true) true fuel 31 [v] = some y) :
    ∃ (A : Option Addr) (ss : List ByteArray) (cap : Nat), v = .slice A ss.length cap ∧ Strs W W.heap.size A ss ∧ ss.length ≤ 9223372036854775807 ∧ Room A ss.length cap := by
  have hlt := DataW.trod_lt fuel _ _ _ hf
  rcases open_strings Tryz.underlying31 Tryz.underlying9 (by kernel_rfl) hf with ⟨hcs, hx⟩ | ⟨x, l, c, zs, hcs, _, hl, hm, hz, hx, hcell, hwz⟩
  · simp at hcs
    subst hcs
    exact ⟨none, [], 0, rfl, Strs.none_, by simp, fun _ => rfl, Nat.le_refl _⟩
  · simp at hcs
    subst hcs
    simp only [if_true] at hz
    subst hx
    unfold maxLen at hm
    have hl2 : (zs.take l).length = l := by rw [List.length_take]; omega
    refine ⟨some x, zs.take l, c, by rw [hl2], fun hpos => ?_, by omega, (fun e => by cases e), by omega⟩
    rw [hl2] at hpos
    obtain ⟨b, off, spot⟩ := x
    have hspot : spot = none := by simpa [Addr.add] using World.cell?_spot (hcell 0 (by omega))
    subst hspot
    refine ⟨b, off, rfl, ?_, fun j hj => ?_⟩
    · have := hlt (.cell b off) (MemPlace.mem_row.2 ⟨0, by omega, by simp⟩)
      exact this
    · have hj2 : j < l := by omega
      have hc := hcell j (by omega)
      have e : (⟨b, off, none⟩ : Addr).add j = ⟨b, off + j, none⟩ := by unfold Addr.add; split <;> simp_all
      rw [e] at hc
      rw [hc, List.getElem_take]
      simp [List.getD_eq_getElem?_getD, List.getElem?_eq_getElem (show j < zs.length by omega)]
end Go.Proofs.YtalabahjfmcnbaaGreatDoor
