/- PatchGets: the patch of any bytes. -/
import Derived.ChangeOld
import Derived.SliceStrings
import Derived.WideShapes
import Derived.Deep.Slices
import Derived.Deep.Fields
import Derived.ChangeSame
import Derived.ChangeArms
import Derived.SizedLaws
import Derived.BigQuiet
import Derived.Deep.QuietTactic
import Derived.Handy
import Derived.Test.YtoajckhfnadhjaaGreatDoorCk38
namespace Go.Proofs.YtoajckhfnadhjaaGreatDoor
open Go.RowKit
set_option linter.unusedVariables false

theorem zeroT_ok (w : World) (B : Nat) : zeroT.Ok w B := ⟨Strs.none_, ⟨fun _ => rfl, Nat.le_refl _⟩, ⟨Rk.Row.nil, fun x hx => by simp [zeroT] at hx⟩, ⟨fun _ => rfl, Nat.le_refl _⟩⟩
set_option maxHeartbeats 8000000 in
set_option maxRecDepth 100000 in
theorem patgets_any (c : PatC) (aw : AwP) (s : ByteArray) (w : World) (hs : s.size ≤ 9223372036854775807) (hT : Tabs w) (hN : Nums w) : Calls Tryz.prog 4 #[.string s] w fun e w' => e = .returned (.bool true) ∧ Below w.heap.size w w' := by
  have HAW := Lib.hid (fun W (hT : Tabs W) (hN : Nums W) => aw W hT hN)
  have HT0 := Lib.hid hT
  have HN0 := Lib.hid hN
  clear hT hN
  by_cases hbig : 3000 < s.size
  · have q0 : (s.size : Int) > 3000 := by omega
    go_enter Tryz.func4, Tryz.ntmps4
    go_wp2_with fail
    refine (HAW.out _ HT0.out HN0.out).mono ?_
    rintro e w1 ⟨rfl, hb⟩
    have HB := Lib.hid hb
    clear hb HAW
    go_wp2
    go_ret
    exact ⟨rfl, HB.out⟩
  have q0 : ¬ (s.size : Int) > 3000 := by omega
  have CG := Lib.hid (c.get s w (by omega) HT0.out HN0.out)
  have hsz : s.size ≤ 3000 := by omega
  have HSZ := Lib.hid hsz
  go_enter Tryz.func4, Tryz.ntmps4
  go_wp2_with fail
  refine CG.out.mono ?_
  rintro e w5 ⟨z, er, rfl, hgot, hzok, hb⟩
  have HG := Lib.hid hgot.out
  have hbz := pat_box w5 z
  have hb6 := hb.trans (hbz.1.mono hb.size)
  have HZ := Lib.hid hbz.2
  have HZO := Lib.hid (hzok.on hbz.1)
  have HB := Lib.hid hb6
  have HT := Lib.hid (Tabs.on HT0.out hb6)
  have HN := Lib.hid (HN0.out.on hb6)
  unfold Ptm.val Ptm.cells
  clear hgot hzok hb hbz hb6 CG HT0 HN0
  go_upto_region 4 with (fail)
  generalize (w5.alloc (.cells #[.string z.name, .slice z.a1 z.deps.length z.c1, .slice z.a2 z.ops.length z.c2] 25)) = w4 at *
  generalize hgz : w5.heap.size = gz at *
  clear hgz hbig hs hsz
  by_cases he : er = 0
  · subst he
    obtain ⟨hc, hs2⟩ := HG.out.1 rfl
    have hbytes : (putP z.key).length ≤ 3000 := by have h := HSZ.out; rw [← hs2, toB_size] at h; omega
    have HFIT := Lib.hid (pat_fit hc (by omega) (by have h := deps_le z.key; have e : z.key.deps.length = z.deps.length := rfl; omega))
    have HC := Lib.hid hc
    have HS2 := Lib.hid hs2
    clear hc hs2 hbytes HG
    go_wp2_with fail
    refine (HAW.out _ HT.out HN.out).mono ?_
    rintro e w6 ⟨rfl, hb⟩
    replace HZ := Lib.hid (HZ.out.on hb)
    replace HB := Lib.hid (HB.out.trans (hb.mono HB.out.size))
    replace HT := Lib.hid (Tabs.on HT.out hb)
    replace HZO := Lib.hid (HZO.out.on hb)
    clear hb HN HAW
    have a0 := HZ.out.c0
    have a1 := HZ.out.c1
    have a2 := HZ.out.c2
    have CC : Hid (Calls Tryz.prog 9 #[.agg #[.string z.name, .slice z.a1 z.deps.length z.c1, .slice z.a2 z.ops.length z.c2]] w6 fun e w' => e = .returned (.int .i64 0) ∧ Below w6.heap.size w6 w') := by
      have h := refpcheck_any z w6 HZO.out HFIT.out.sz HFIT.out.made HT.out
      rw [HC.out] at h
      exact h
    go_wp2_with fail
    refine CC.out.mono ?_
    rintro e w7 ⟨rfl, hb⟩
    replace HZ := Lib.hid (HZ.out.on hb)
    replace HB := Lib.hid (HB.out.trans (hb.mono HB.out.size))
    replace HZO := Lib.hid (HZO.out.on hb)
    clear hb CC a0 a1 a2
    have a0 := HZ.out.c0
    have a1 := HZ.out.c1
    have a2 := HZ.out.c2
    have CP : Hid (Calls Tryz.prog 15 #[.agg #[.string z.name, .slice z.a1 z.deps.length z.c1, .slice z.a2 z.ops.length z.c2]] w7 fun e w' => e = .returned (.string s) ∧ Below w7.heap.size w7 w') := by
      have h := refpput_any z w7 HZO.out HFIT.out.pu
      rw [HS2.out] at h
      exact h
    go_wp2_with fail
    refine CP.out.mono ?_
    rintro e w8 ⟨rfl, hb⟩
    have HF := Lib.hid (HB.out.trans (hb.mono HB.out.size))
    have q2 := str_eqb s
    clear hb CP HB a0 a1 a2 HZ HZO
    go_wp2
    go_ret
    exact ⟨rfl, HF.out⟩
  · obtain ⟨rfl, -⟩ := HG.out.2 he
    have q1 : (er != 0) = true := by rw [bne_iff_ne]; exact he
    clear he HG
    go_wp2_with fail
    refine (HAW.out _ HT.out HN.out).mono ?_
    rintro e w6 ⟨rfl, hb⟩
    replace HZ := Lib.hid (HZ.out.on hb)
    replace HB := Lib.hid (HB.out.trans (hb.mono HB.out.size))
    clear hb HN HAW HT HZO
    have a0 : w6.cell? ⟨gz, 0, none⟩ = some (.string ⟨#[]⟩) := HZ.out.c0
    have a1 : w6.cell? ⟨gz, 1, none⟩ = some (.slice none 0 0) := HZ.out.c1
    have a2 : w6.cell? ⟨gz, 2, none⟩ = some (.slice none 0 0) := HZ.out.c2
    have CS : Hid (Calls Tryz.prog 12 #[.agg #[.string ⟨#[]⟩, .slice none 0 0, .slice none 0 0], .agg #[.string ⟨#[]⟩, .slice none 0 0, .slice none 0 0]] w6 fun e w' => e = .returned (.bool true) ∧ Below w6.heap.size w6 w') :=
      refpsame_any zeroT zeroT w6 (zeroT_ok _ _) (zeroT_ok _ _) (by decide) (by decide) (fun x hx => by simp [zeroT] at hx) (fun x hx => by simp [zeroT] at hx) (by decide) (by decide) true (decide_eq_true rfl)
    go_wp2_with fail
    refine CS.out.mono ?_
    rintro e w8 ⟨rfl, hb⟩
    have HF := Lib.hid (HB.out.trans (hb.mono HB.out.size))
    clear hb CS HB a0 a1 a2 HZ
    go_wp2
    go_ret
    exact ⟨rfl, HF.out⟩
end Go.Proofs.YtoajckhfnadhjaaGreatDoor
