/- awake of layer 14. -/
import Derived.Test.YtifkpelcdihdoaaGreatDoorProg
import Derived.WalkKit
import Derived.WalkSpells
import Derived.Handy
import Derived.Lib.Hide
import Derived.Shelf.Strings.BuilderK
import Derived.BigQuiet
import Derived.Deep.QuietTactic
import Derived.Lib.AtoiAllCases
import Derived.Lib.ItoaMem
import Derived.Test.YtifkpelcdihdoaaGreatDoorShelf
import Derived.Deep.RegionHeld3
import Derived.Deep.CutRange
import Derived.Lib.AppendIntMem
import Derived.BigRegion
import Derived.Deep.RegionWith
import Derived.Lib.QuietBelow
import Derived.Deep.MidRow
import Derived.Test.YtifkpelcdihdoaaGreatDoorCk13
namespace Go.Proofs.YtifkpelcdihdoaaGreatDoor
open Go.RowKit
set_option linter.unusedVariables false

def awx : Ptm := ⟨⟨#[97]⟩, none, 0, [], none, 0, []⟩
def awy (h : Nat) : Ptm := ⟨⟨#[98]⟩, some ⟨h, 0, none⟩, 1, [[97]], none, 0, []⟩
theorem awx_ok (w : World) (B : Nat) : awx.Ok w B := ⟨Strs.none_, ⟨fun _ => rfl, Nat.le_refl _⟩, ⟨Rk.Row.nil, fun x hx => by simp [awx] at hx⟩, ⟨fun _ => rfl, Nat.le_refl _⟩⟩
theorem awy_ok {w : World} {B h : Nat} (hs : Strs w B (some ⟨h, 0, none⟩) (toBs [[97]])) : (awy h).Ok w B := ⟨hs, ⟨(fun e => by cases e), Nat.le_refl _⟩, ⟨Rk.Row.nil, fun x hx => by simp [awy] at hx⟩, ⟨fun _ => rfl, Nat.le_refl _⟩⟩
theorem awx_lt : awx.Lt := ⟨Nat.le_of_ble_eq_true rfl, Nat.le_of_ble_eq_true rfl, Nat.le_of_ble_eq_true rfl, (fun d hd => by simp [awx] at hd), fun o ho => by simp [awx] at ho⟩
theorem awy_lt (h : Nat) : (awy h).Lt := ⟨Nat.le_of_ble_eq_true rfl, Nat.le_of_ble_eq_true rfl, Nat.le_of_ble_eq_true rfl, (fun d hd => by
  have e : d = [97] := by simpa [awy] using hd
  rw [e]
  exact Nat.le_of_ble_eq_true rfl), fun o ho => by simp [awy] at ho⟩
theorem awx_in : awx.In := ⟨Nat.le_of_ble_eq_true rfl, Nat.le_of_ble_eq_true rfl, Nat.le_of_ble_eq_true rfl, fun o ho => by simp [awx] at ho⟩
theorem awy_in (h : Nat) : (awy h).In := ⟨Nat.le_of_ble_eq_true rfl, Nat.le_of_ble_eq_true rfl, Nat.le_of_ble_eq_true rfl, fun o ho => by simp [awy] at ho⟩
theorem aw_made (w w4 : World) (hT : Tabs w) (e : ((((w.alloc (.cells #[.string ⟨#[97]⟩] 9)).alloc (.cells #[.string ⟨#[97]⟩, .slice none 0 0, .slice none 0 0] 35)).alloc (.cells #[.string ⟨#[98]⟩, .slice (some ⟨w.heap.size, 0, none⟩) 1 1, .slice none 0 0] 35)).alloc (.cells #[.string ⟨#[98]⟩, .slice (some ⟨w.heap.size, 0, none⟩) 1 1, .slice none 0 0, .string ⟨#[97]⟩, .slice none 0 0, .slice none 0 0] 35)) = w4) :
    Below w.heap.size w w4 ∧ DepIn w4 (some ⟨w.heap.size + 1 + 1 + 1, 0, none⟩) [awy w.heap.size, awx] 2 ∧ w4.rangeAt (w.heap.size + 1) 0 awx.cells ∧ w4.rangeAt (w.heap.size + 1 + 1) 0 (awy w.heap.size).cells ∧ awx.Ok w4 w4.heap.size ∧ (awy w.heap.size).Ok w4 w4.heap.size := by
  have s1 : (w.alloc (.cells #[.string ⟨#[97]⟩] 9)).heap.size = w.heap.size + 1 := by simp
  have b1 : Below w.heap.size w (w.alloc (.cells #[.string ⟨#[97]⟩] 9)) := (Below.refl _ _).alloc (Nat.le_refl _) _
  have h1 : Strs (w.alloc (.cells #[.string ⟨#[97]⟩] 9)) (w.alloc (.cells #[.string ⟨#[97]⟩] 9)).heap.size (some ⟨w.heap.size, 0, none⟩) (toBs [[97]]) := strs_one w ⟨#[97]⟩
  obtain ⟨b2, p2⟩ := patb_box (w.alloc (.cells #[.string ⟨#[97]⟩] 9)) (.string ⟨#[97]⟩) (.slice none 0 0) (.slice none 0 0)
  have s2 : ((w.alloc (.cells #[.string ⟨#[97]⟩] 9)).alloc (.cells #[.string ⟨#[97]⟩, .slice none 0 0, .slice none 0 0] 35)).heap.size = w.heap.size + 1 + 1 := by simp
  obtain ⟨b3, p3⟩ := patb_box ((w.alloc (.cells #[.string ⟨#[97]⟩] 9)).alloc (.cells #[.string ⟨#[97]⟩, .slice none 0 0, .slice none 0 0] 35)) (.string ⟨#[98]⟩) (.slice (some ⟨w.heap.size, 0, none⟩) 1 1) (.slice none 0 0)
  have s3 : (((w.alloc (.cells #[.string ⟨#[97]⟩] 9)).alloc (.cells #[.string ⟨#[97]⟩, .slice none 0 0, .slice none 0 0] 35)).alloc (.cells #[.string ⟨#[98]⟩, .slice (some ⟨w.heap.size, 0, none⟩) 1 1, .slice none 0 0] 35)).heap.size = w.heap.size + 1 + 1 + 1 := by simp
  have HO : patR.Own ((((w.alloc (.cells #[.string ⟨#[97]⟩] 9)).alloc (.cells #[.string ⟨#[97]⟩, .slice none 0 0, .slice none 0 0] 35)).alloc (.cells #[.string ⟨#[98]⟩, .slice (some ⟨w.heap.size, 0, none⟩) 1 1, .slice none 0 0] 35)).alloc (.cells #[.string ⟨#[98]⟩, .slice (some ⟨w.heap.size, 0, none⟩) 1 1, .slice none 0 0, .string ⟨#[97]⟩, .slice none 0 0, .slice none 0 0] 35)) (((w.alloc (.cells #[.string ⟨#[97]⟩] 9)).alloc (.cells #[.string ⟨#[97]⟩, .slice none 0 0, .slice none 0 0] 35)).alloc (.cells #[.string ⟨#[98]⟩, .slice (some ⟨w.heap.size, 0, none⟩) 1 1, .slice none 0 0] 35)).heap.size (.slice (some ⟨(((w.alloc (.cells #[.string ⟨#[97]⟩] 9)).alloc (.cells #[.string ⟨#[97]⟩, .slice none 0 0, .slice none 0 0] 35)).alloc (.cells #[.string ⟨#[98]⟩, .slice (some ⟨w.heap.size, 0, none⟩) 1 1, .slice none 0 0] 35)).heap.size, 0, none⟩) 2 2) [awy w.heap.size, awx] := World.ownsRow_lit (base := (((w.alloc (.cells #[.string ⟨#[97]⟩] 9)).alloc (.cells #[.string ⟨#[97]⟩, .slice none 0 0, .slice none 0 0] 35)).alloc (.cells #[.string ⟨#[98]⟩, .slice (some ⟨w.heap.size, 0, none⟩) 1 1, .slice none 0 0] 35)).heap.size) (e := 35) (size := 3) (((w.alloc (.cells #[.string ⟨#[97]⟩] 9)).alloc (.cells #[.string ⟨#[97]⟩, .slice none 0 0, .slice none 0 0] 35)).alloc (.cells #[.string ⟨#[98]⟩, .slice (some ⟨w.heap.size, 0, none⟩) 1 1, .slice none 0 0] 35)) #[.string ⟨#[98]⟩, .slice (some ⟨w.heap.size, 0, none⟩) 1 1, .slice none 0 0, .string ⟨#[97]⟩, .slice none 0 0, .slice none 0 0] 2 (Nat.le_refl _) (by decide) rfl
  have b4 : Below (((w.alloc (.cells #[.string ⟨#[97]⟩] 9)).alloc (.cells #[.string ⟨#[97]⟩, .slice none 0 0, .slice none 0 0] 35)).alloc (.cells #[.string ⟨#[98]⟩, .slice (some ⟨w.heap.size, 0, none⟩) 1 1, .slice none 0 0] 35)).heap.size (((w.alloc (.cells #[.string ⟨#[97]⟩] 9)).alloc (.cells #[.string ⟨#[97]⟩, .slice none 0 0, .slice none 0 0] 35)).alloc (.cells #[.string ⟨#[98]⟩, .slice (some ⟨w.heap.size, 0, none⟩) 1 1, .slice none 0 0] 35)) ((((w.alloc (.cells #[.string ⟨#[97]⟩] 9)).alloc (.cells #[.string ⟨#[97]⟩, .slice none 0 0, .slice none 0 0] 35)).alloc (.cells #[.string ⟨#[98]⟩, .slice (some ⟨w.heap.size, 0, none⟩) 1 1, .slice none 0 0] 35)).alloc (.cells #[.string ⟨#[98]⟩, .slice (some ⟨w.heap.size, 0, none⟩) 1 1, .slice none 0 0, .string ⟨#[97]⟩, .slice none 0 0, .slice none 0 0] 35)) := (Below.refl _ _).alloc (Nat.le_refl _) _
  rw [e] at HO b4
  rw [s3] at HO
  rw [s1] at p2
  rw [s2] at p3
  have bb3 := b1.trans ((b2.trans (b3.mono b2.size)).mono b1.size)
  have bb := bb3.trans (b4.mono bb3.size)
  have h4 := ((h1.on b2).on b3).on b4
  have q2 := (p2.on b3).on b4
  have q3 := p3.on b4
  have ox := awx_ok w4 w4.heap.size
  have oy := awy_ok h4
  refine ⟨bb, ⟨⟨HO.parts.2.1, fun z hz => ?_⟩, ⟨(fun e => by cases e), Nat.le_refl _⟩, by simp, fun z hz => ?_, fun z hz => ?_, Tabs.on hT bb⟩, ?_, ?_, ox, oy⟩
  · have e : z = awy w.heap.size ∨ z = awx := by simpa using hz
    rcases e with rfl | rfl
    · exact oy
    · exact ox
  · have e : z = awy w.heap.size ∨ z = awx := by simpa using hz
    rcases e with rfl | rfl
    · exact awy_lt _
    · exact awx_lt
  · have e : z = awy w.heap.size ∨ z = awx := by simpa using hz
    rcases e with rfl | rfl
    · exact awy_in _
    · exact awx_in
  · intro j v hv
    match j, hv with
    | 0, hv => cases hv; exact q2.c0
    | 1, hv => cases hv; exact q2.c1
    | 2, hv => cases hv; exact q2.c2
  · intro j v hv
    match j, hv with
    | 0, hv => cases hv; exact q3.c0
    | 1, hv => cases hv; exact q3.c1
    | 2, hv => cases hv; exact q3.c2
theorem one_name (w : World) (s : ByteArray) (h : s.size ≤ 100) : NamIn (w.alloc (.cells #[.string s] 9)) (some ⟨w.heap.size, 0, none⟩) [s.data.toList] 1 :=
  ⟨strs_one w s, ⟨(fun e => by cases e), Nat.le_refl _⟩, Nat.le_of_ble_eq_true rfl, fun n hn => by
    have e : n = s.data.toList := by simpa using hn
    rw [e]
    exact h⟩
set_option maxHeartbeats 8000000 in
set_option maxRecDepth 100000 in
theorem depaw_any (c : DepC) : AwD := fun w hT => by
  have HC := Lib.hid c
  have HT := Lib.hid hT
  clear c hT
  go_enter Tryz.func5, Tryz.ntmps5
  go_upto_region 3 with (fail)
  generalize hw4 : ((((w.alloc (.cells #[.string ⟨#[97]⟩] 9)).alloc (.cells #[.string ⟨#[97]⟩, .slice none 0 0, .slice none 0 0] 35)).alloc (.cells #[.string ⟨#[98]⟩, .slice (some ⟨w.heap.size, 0, none⟩) 1 1, .slice none 0 0] 35)).alloc (.cells #[.string ⟨#[98]⟩, .slice (some ⟨w.heap.size, 0, none⟩) 1 1, .slice none 0 0, .string ⟨#[97]⟩, .slice none 0 0, .slice none 0 0] 35)) = w4 at *
  obtain ⟨hb, hd, ra, rb, ox, oy⟩ := aw_made w w4 HT.out hw4
  have HB := Lib.hid hb
  have HD := Lib.hid hd
  have RA := Lib.hid ra
  have RB := Lib.hid rb
  have OX := Lib.hid ox
  have OY := Lib.hid oy
  have hkl : pkeys [awy w.heap.size, awx] = [awB, awA] := rfl
  have HKL := Lib.hid hkl
  clear hw4 hb hd ra rb ox oy HT hkl
  generalize w.heap.size + 1 + 1 + 1 = gl at *
  generalize w.heap.size + 1 + 1 = gb at *
  generalize w.heap.size + 1 = ga at *
  generalize hgh : w.heap.size = gh at HD HKL RB OY ⊢
  clear hgh
  obtain ⟨ll, hll⟩ : ∃ ll, ll = [awy gh, awx] := ⟨_, rfl⟩
  rw [← hll] at HD HKL
  have hl2 : ll.length = 2 := by rw [hll]; rfl
  clear hll
  have C1 := Lib.hid (HC.out.order (some ⟨gl, 0, none⟩) ll 2 w4 HD.out HKL.out)
  rw [hl2] at C1
  -- @P1
  go_wp2_with fail
  refine C1.out.mono ?_
  rintro e w5 ⟨Ao, co, lo, rfl, hko, _, hpo, _, hb⟩
  replace HB := Lib.hid (HB.out.trans (hb.mono HB.out.size))
  replace HD := Lib.hid (HD.out.on hb)
  replace RA := Lib.hid (range_on RA.out hb)
  replace RB := Lib.hid (range_on RB.out hb)
  replace OX := Lib.hid (OX.out.on hb)
  replace OY := Lib.hid (OY.out.on hb)
  have hlo : lo.length = 2 := by have h := congrArg List.length hko; rw [pkeys_len] at h; exact h
  obtain ⟨bo, fo, eo, _, hco⟩ := hpo.1.get (j := 0) (by omega)
  have hn0 : lo[0].name = ⟨#[97]⟩ := by
    have h := pkeys_get lo 0 (by omega)
    simp only [hko] at h
    exact bytes_inj (congrArg PatK.name h.symm)
  have CO0 : Hid (w5.cell? ⟨bo, fo, none⟩ = some (.string ⟨#[97]⟩)) := by have h := hco 0 _ rfl; show _ = _; rw [← hn0]; simpa using h
  have IO : ∀ W, (Instr.indexAt 22 (.slice Ao 2 co) (.int .i64 0)).run Tryz.prog W = .ok (.pointer (some ⟨bo, fo, none⟩)) W := fun W => by
    have h := pat_indexAt (k := 0) (n := 2) (c := co) eo (by decide) W
    simpa using h
  clear hb hko hpo hco hn0 eo C1
  rw [hlo]
  clear hlo
  -- @P2
  go_wp2_with fail
  have hb := (Below.refl w5.heap.size w5).alloc (Nat.le_refl _) (.cells #[.string ⟨#[97]⟩] 9)
  have C2 := Lib.hid (HC.out.users (some ⟨gl, 0, none⟩) ll 2 (some ⟨w5.heap.size, 0, none⟩) [[97]] 1 _ (HD.out.on hb) (one_name w5 ⟨#[97]⟩ (Nat.le_of_ble_eq_true rfl)))
  rw [hl2, HKL.out, show usersD [awB, awA] [[97]] = [[97], [98]] from by decide +kernel] at C2
  refine C2.out.mono ?_
  rintro e w6 ⟨Au, cu, rfl, _, _, hb6⟩
  replace hb := hb.trans (hb6.mono hb.size)
  replace HB := Lib.hid (HB.out.trans (hb.mono HB.out.size))
  replace HD := Lib.hid (HD.out.on hb)
  replace RA := Lib.hid (range_on RA.out hb)
  replace RB := Lib.hid (range_on RB.out hb)
  replace OX := Lib.hid (OX.out.on hb)
  replace OY := Lib.hid (OY.out.on hb)
  replace CO0 := Lib.hid (cell_on CO0.out hb)
  clear hb hb6 C2
  -- @P3
  go_wp2_with fail
  have hb := (Below.refl w6.heap.size w6).alloc (Nat.le_refl _) (.cells #[.string ⟨#[98]⟩] 9)
  have C3 := Lib.hid (HC.out.need (some ⟨gl, 0, none⟩) ll 2 (some ⟨w6.heap.size, 0, none⟩) [[98]] 1 _ (HD.out.on hb) (one_name w6 ⟨#[98]⟩ (Nat.le_of_ble_eq_true rfl)))
  rw [hl2, HKL.out, show allD [awB, awA] [[98]] = [[97], [98]] from by decide +kernel, show theirD [awB, awA] [[98]] = true from by decide +kernel, if_pos rfl] at C3
  refine C3.out.mono ?_
  rintro e w7 ⟨An, cn, ln, rfl, ⟨hln, _⟩, _, hb7⟩
  obtain rfl : ln = [[97], [98]] := hln rfl
  replace hb := hb.trans (hb7.mono hb.size)
  replace HB := Lib.hid (HB.out.trans (hb.mono HB.out.size))
  replace HD := Lib.hid (HD.out.on hb)
  replace RA := Lib.hid (range_on RA.out hb)
  replace RB := Lib.hid (range_on RB.out hb)
  replace OX := Lib.hid (OX.out.on hb)
  replace OY := Lib.hid (OY.out.on hb)
  replace CO0 := Lib.hid (cell_on CO0.out hb)
  clear hb hb7 C3 hln
  -- @P4
  have c0 := CO0.out
  have q0 := str_eqb ⟨#[97]⟩
  have C4 := Lib.hid (HC.out.check (some ⟨gl, 0, none⟩) ll 2 w7 HD.out HKL.out)
  rw [hl2] at C4
  go_wp2_with fail
  refine C4.out.mono ?_
  rintro e w8 ⟨rfl, hb⟩
  replace HB := Lib.hid (HB.out.trans (hb.mono HB.out.size))
  replace HD := Lib.hid (HD.out.on hb)
  replace RA := Lib.hid (range_on RA.out hb)
  replace RB := Lib.hid (range_on RB.out hb)
  replace OX := Lib.hid (OX.out.on hb)
  replace OY := Lib.hid (OY.out.on hb)
  clear hb C4 c0 q0 CO0 IO
  have C5 := Lib.hid (HC.out.ordered (some ⟨gl, 0, none⟩) ll 2 w8 HD.out HKL.out)
  rw [hl2] at C5
  go_wp2_with fail
  refine C5.out.mono ?_
  rintro e w9 ⟨rfl, hb⟩
  replace HB := Lib.hid (HB.out.trans (hb.mono HB.out.size))
  replace HD := Lib.hid (HD.out.on hb)
  replace RA := Lib.hid (range_on RA.out hb)
  replace RB := Lib.hid (range_on RB.out hb)
  replace OX := Lib.hid (OX.out.on hb)
  replace OY := Lib.hid (OY.out.on hb)
  clear hb C5
  -- @P5
  have C6 := Lib.hid (HC.out.beside awx (awy gh) w9 OX.out OY.out rfl rfl)
  unfold Ptm.val Ptm.cells awx awy at C6
  go_wp2_with (first | ((with_reducible refine wpList_load_patw (.tmp 1) ga 0 awx RA.out ?_ ?_ ?_ ?_); rfl; rfl; rfl; simp only [Act.put, List.setIfInBounds_toArray, List.set_cons_zero, List.set_cons_succ, awx]) | ((with_reducible refine wpList_load_patw (.tmp 2) gb 0 (awy gh) RB.out ?_ ?_ ?_ ?_); rfl; rfl; rfl; simp only [Act.put, List.setIfInBounds_toArray, List.set_cons_zero, List.set_cons_succ, awy]) | fail)
  refine C6.out.mono ?_
  rintro e wa ⟨rfl, hb⟩
  replace HB := Lib.hid (HB.out.trans (hb.mono HB.out.size))
  replace HD := Lib.hid (HD.out.on hb)
  replace RA := Lib.hid (range_on RA.out hb)
  replace RB := Lib.hid (range_on RB.out hb)
  replace OX := Lib.hid (OX.out.on hb)
  replace OY := Lib.hid (OY.out.on hb)
  clear hb C6
  have C7 := Lib.hid (HC.out.names (some ⟨gl, 0, none⟩) ll 2 wa HD.out HKL.out)
  rw [hl2] at C7
  go_wp2_with fail
  refine C7.out.mono ?_
  rintro e wb ⟨Az, cz, rfl, _, _, hb⟩
  have HF := Lib.hid (HB.out.trans (hb.mono HB.out.size))
  clear hb C7
  go_wp2
  go_ret
  exact ⟨rfl, HF.out⟩
end Go.Proofs.YtifkpelcdihdoaaGreatDoor
