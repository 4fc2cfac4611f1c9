/- Package diff's Apply. -/
import Derived.BigQuiet
import Derived.Deep.QuietTactic
import Derived.Handy
import Derived.Test.YtalabahjfmcnbaaGreatDoorCk48
namespace Go.Proofs.YtalabahjfmcnbaaGreatDoor
open Go.RowKit
set_option linter.unusedVariables false
set_option linter.unusedSectionVars false

section
variable {α : Type} [DecidableEq α]
/-- Hunks done from place i on. -/
def fwd (a : List α) : Nat → List (Hk α) → List α
  | i, [] => a.drop i
  | i, h :: l => (a.drop i).take (h.at_ - i) ++ (h.new ++ fwd a (h.at_ + h.old.length) l)
theorem done_fwd (a : List α) : ∀ (l : List (Hk α)) (i : Nat) (b : List α), i ≤ a.length → Done i l (a.drop i) b → b = fwd a i l
  | [], i, b, _, h => by simp only [Done] at h; rw [fwd, h]
  | g :: l, i, b, hi, h => by
    obtain ⟨c, a', b', h1, rfl, h3, h4⟩ := h
    have hl := congrArg List.length h1
    simp only [List.length_drop, List.length_append] at hl
    have e1 : a.drop (g.at_ + g.old.length) = a' := by
      have : a.drop (g.at_ + g.old.length) = (a.drop i).drop (c.length + g.old.length) := by rw [List.drop_drop]; congr 1; omega
      rw [this, h1, ← List.append_assoc, List.drop_append_of_le_length (by simp), List.drop_of_length_le (by simp), List.nil_append]
    have e2 : (a.drop i).take (g.at_ - i) = c := by
      rw [h1, show g.at_ - i = c.length by omega, List.take_append_of_le_length (Nat.le_refl _), List.take_length]
    rw [← e1] at h4
    rw [fwd, e2, ← done_fwd a l (g.at_ + g.old.length) b' (by omega) h4]
theorem fwd_app {a : List α} {l : List (Hk α)} (hm : May l) (hs : ∀ h ∈ l, Stands a h) : refApp a l = fwd a 0 l := by
  obtain ⟨b, hb⟩ := stands_done a l 0 (Nat.zero_le _) (by cases l <;> simp [From]) hm hs
  have e := done_fwd a l 0 b (Nat.zero_le _) hb
  rw [List.drop_zero] at hb
  have := done_app (p := []) rfl hb
  simp only [List.nil_append] at this
  rw [this, e]
end
theorem plains_drop (hs : List Hm) (k : Nat) (hk : k < hs.length) : plains (hs.drop k) = hs[k].plain :: plains (hs.drop (k + 1)) := by
  rw [List.drop_eq_getElem_cons hk]; rfl
theorem sum_drop (hs : List Hm) (k : Nat) (hk : k < hs.length) : sumNew (plains (hs.drop k)) = hs[k].new.length + sumNew (plains (hs.drop (k + 1))) := by
  rw [plains_drop hs k hk]; simp [sumNew, Hm.plain]
theorem sum_take_drop (hs : List Hm) (k : Nat) : sumNew (plains (hs.take k)) + sumNew (plains (hs.drop k)) = sumNew (plains hs) := by
  have e := congrArg (fun l => sumNew (plains l)) (List.take_append_drop k hs)
  simp only [plains, sumNew, List.map_append, List.sum_append] at e ⊢
  exact e
theorem may_drop {hs : List Hm} (h : May (plains hs)) (k : Nat) : May (plains (hs.drop k)) := by
  have := drop_may (plains hs) k h
  rwa [plains, ← List.map_drop] at this

set_option maxHeartbeats 2000000 in
set_option maxRecDepth 100000 in
theorem apply_c : ApplyC := by
  intro A A2 la hs cap cap2 w hA hR hk hR2 hsm hn hsum
  have HA := Lib.hid hA
  have HR := Lib.hid hR
  have HK := Lib.hid hk
  have HS := Lib.hid hsm.2
  obtain ⟨er, her⟩ : ∃ er : Int, er = if mayB hs then 0 else 6 := ⟨_, rfl⟩
  have CC := Lib.hid (check_any A2 hs cap2 w hk (by omega) hsm er her)
  have hla : la.length ≤ 300000 := by omega
  have HSUM := Lib.hid hsum
  clear hA hR hk hR2 hsm hsum
  by_cases hmay : mayB hs = true
  · rw [if_pos hmay] at her
    subst her
    obtain ⟨hpos, hm, _⟩ := mayF_plain hs none hmay
    have HP := Lib.hid hpos
    have HM := Lib.hid (show May (plains hs) from hm)
    have hE : Hid (applE la hs = if standB la hs then 0 else 13) := by show _ = _; unfold applE; rw [if_pos hmay]
    clear hmay hpos hm
    generalize hT : refApp la (plains hs) = T
    generalize hEE : applE la hs = E
    rw [hEE] at hE
    have HT := Lib.hid hT
    clear hT hEE
    go_enter Tryz.func139, Tryz.ntmps139
    go_wp2_with fail
    refine CC.out.mono ?_
    rintro e w1 ⟨rfl, hb1⟩
    have HB1 := Lib.hid hb1
    clear hb1 CC
    go_wp2
    go_loopw [7, 8, 18] (fun v dv iv wr => ∃ (k dn : Nat) (ls : List (List UInt8)), k ≤ hs.length ∧ iv = .int .i64 (k : Int) ∧ dv = .int .i64 (dn : Int) ∧ dn ≤ la.length ∧ Hid (From dn (plains (hs.drop k))) ∧ Hid (fwd la 0 (plains hs) = ls ++ fwd la dn (plains (hs.drop k))) ∧ Hid (ls.length + sumNew (plains (hs.drop k)) ≤ dn + sumNew (plains hs)) ∧
        Hid (∀ j (hj : j < hs.length), j < k → atB la hs[j].old hs[j].at_ = true) ∧ Hid (OwnS wr w.heap.size v ls) ∧ Below w.heap.size w wr) (fun _ _ iv _ => hs.length - (intOf iv).toNat)
    case atStart =>
      exact ⟨0, 0, [], Nat.zero_le _, rfl, rfl, Nat.zero_le _, by show From _ _; cases plains (hs.drop 0) <;> simp [From], rfl, by show _ ≤ _; simp, fun j hj h => absurd h (by omega), OwnS.nil _ _, HB1.out⟩
    case round =>
      obtain ⟨k, dn, ls, hk, rfl, rfl, hdn, hfrom, hfwd, hlen, hall, hown, hb⟩ := hrel
      clear HB1
      by_cases hlt : k < hs.length
      · have hK := HK.out.on hb
        obtain ⟨g, off, rfl, hgl, h1, h2, h3⟩ := hK.get hlt
        have ok := hK.ok hs[k] (List.getElem_mem _)
        have hp := HP.out hs[k] (List.getElem_mem _)
        have s1 := HS.out hs[k] (List.getElem_mem _)
        have hba : Below wr.heap.size wr (wr.alloc (.cells #[.int .i64 hs[k].at_, .slice hs[k].a1 hs[k].old.length hs[k].c1, .slice hs[k].a2 hs[k].new.length hs[k].c2] 171)) := (Below.refl _ _).alloc (Nat.le_refl _) _
        have hbB := hb.trans (hba.mono hb.size)
        have CS := stands_any A la cap hs[k] _ _ rfl (HA.out.on hbB) HR.out (ok.on hba) hp (by omega) s1.1
        have hat : HunkAt (wr.alloc (.cells #[.int .i64 hs[k].at_, .slice hs[k].a1 hs[k].old.length hs[k].c1, .slice hs[k].a2 hs[k].new.length hs[k].c2] 171)) wr.heap.size ⟨hs[k].at_, hs[k].a1, hs[k].c1, hs[k].old, hs[k].a2, hs[k].c2, hs[k].new⟩ := HunkAt.new_ wr hs[k]
        have hno : Hid (atB la hs[k].old hs[k].at_ = false → E = 13) := by
          intro h
          have : standB la hs = false := by
            rw [standB, List.all_eq_false]
            exact ⟨hs[k], List.getElem_mem _, by rw [h]; simp⟩
          rw [hE.out, this]
          rfl
        cases hd : atB la hs[k].old hs[k].at_ with
        | false =>
          have hfin := Lib.hid (hno.out hd)
          rw [hd] at CS
          have HC := Lib.hid CS
          have HBB := Lib.hid hbB
          clear CS hbB hba hat hno hd ok hK hp s1 hall
          generalize hs[k].at_ = n at *
          generalize hs[k].old.length = m1 at *
          generalize hs[k].new.length = m2 at *
          generalize hs[k].a1 = x1 at *
          generalize hs[k].a2 = x2 at *
          generalize hs[k].c1 = x3 at *
          generalize hs[k].c2 = x4 at *
          go_wp2_with fail
          refine HC.out.mono ?_
          rintro e w2 ⟨rfl, hb2⟩
          have HB2 := Lib.hid (HBB.out.trans (hb2.mono HBB.out.size))
          clear hb2
          go_wp2
          go_ret2
          rw [hfin.out]
          exact told_none _ _ _ _ (by decide) HB2.out
        | true =>
          rw [hd] at CS
          obtain ⟨k2, hk2⟩ : ∃ k2 : Nat, hs[k].at_ = (k2 : Int) := ⟨hs[k].at_.toNat, by omega⟩
          have hst := (atB_stands hp).1 hd
          have hpl := plains_drop hs k hlt
          have hfr := hfrom.out
          have hfw := hfwd.out
          have hle := hlen.out
          have hmd := may_drop HM.out k
          have hsd := sum_drop hs k hlt
          rw [hpl] at hfr hfw hmd
          have hat2 : hs[k].plain.at_ = k2 := by simp [Hm.plain, hk2]
          have hdk : dn ≤ k2 := by rw [← hat2]; exact hfr
          have hkl : k2 + hs[k].old.length ≤ la.length := by have := hst.1; rw [hat2] at this; exact this
          obtain ⟨A', cap', ld, e1, p1, r1⟩ := part_mid A la cap dn k2 HR.out hdk (by omega)
          have hld : ld.length = k2 - dn := by rw [e1, List.length_take, List.length_drop]; omega
          have hfrom2 : Hid (From (k2 + hs[k].old.length) (plains (hs.drop (k + 1)))) := by
            have := hmd.2.1
            rw [hat2] at this
            exact this.mono (by show _ ≤ k2 + hs[k].old.length + 1; omega)
          have hfwd2 : Hid (fwd la 0 (plains hs) = ((ls ++ ld) ++ hs[k].new) ++ fwd la (k2 + hs[k].old.length) (plains (hs.drop (k + 1)))) := by
            show _ = _
            rw [hfw, fwd, hat2, ← e1]
            simp only [List.append_assoc]
            rfl
          have hsum := HSUM.out
          have hsk : sumNew (plains (hs.drop k)) ≤ 300000 := by
            have : sumNew (plains (hs.drop k)) ≤ sumNew (plains hs) := by
              have e := sum_take_drop hs k
              omega
            omega
          have hlen2 : Hid (((ls ++ ld) ++ hs[k].new).length + sumNew (plains (hs.drop (k + 1))) ≤ (k2 + hs[k].old.length) + sumNew (plains hs)) := by
            show _ ≤ _
            simp only [List.length_append]
            omega
          have hle1 : ls.length + ld.length ≤ 1000000 := by omega
          have hle2 : (ls ++ ld).length + hs[k].new.length ≤ 1000000 := by simp only [List.length_append]; omega
          have hall2 : Hid (∀ j (hj : j < hs.length), j < k + 1 → atB la hs[j].old hs[j].at_ = true) := by
            intro j hj hjk
            by_cases h : j = k
            · subst h; exact hd
            · exact hall.out j hj (by omega)
          have HC := Lib.hid CS
          have HBB := Lib.hid hbB
          have HBA := Lib.hid hba
          have HAT := Lib.hid hat
          have HLE1 := Lib.hid hle1
          have HLE2 := Lib.hid hle2
          have HP1 := Lib.hid p1
          have HKK : Hid (∀ w2, Below w.heap.size w w2 → Strs w2 w2.heap.size hs[k].a2 (toBs hs[k].new)) := fun w2 hb2 => ((HK.out.on hb2).ok hs[k] (List.getElem_mem _)).new
          have hrm := Lib.hid ok.r2
          clear CS hbB hba hat hno hd ok hK hp s1 hall hst hpl hfr hfw hle hmd hsd e1 p1 hld hle1 hle2 hsum hsk hat2 hfrom hfwd hlen
          rw [hk2] at h1 HC HAT HBB HBA
          clear hk2
          have hd1 : (dn : Int) ≤ (k2 : Int) := by omega
          generalize hs[k].old = o at *
          generalize hs[k].new = e at *
          generalize hs[k].a1 = x1 at *
          generalize hs[k].a2 = x2 at *
          generalize hs[k].c1 = x3 at *
          generalize hs[k].c2 = x4 at *
          go_wp2_with fail
          refine HC.out.mono ?_
          rintro e w2 ⟨rfl, hb2⟩
          have hbw2 := HBB.out.trans (hb2.mono HBB.out.size)
          have O2 := Lib.hid ((hown.out.kept HBA.out).kept hb2)
          have A2' := HAT.out.on hb2
          have S2 := Lib.hid (HP1.out.strs w2 _ (HA.out.on hbw2))
          have HR1 := Lib.hid HP1.out.room
          have HB2 := Lib.hid hbw2
          have c0 := A2'.c0
          have c1 := A2'.c1
          have c2 := A2'.c2
          have HA2 := Lib.hid A2'
          have hBs := hbw2.size
          clear hb2 hbw2 A2' HC HAT HBA HBB hown HP1
          go_wp2_with (at_builtin; refine wpList_append_strs rfl _ _ rfl w.heap.size _ ls ld rfl O2.out A' cap' ld.length rfl rfl HR1.out.1 S2.out hBs HLE1.out ?_)
          intro v4 w4 ho4 hg4
          have hbw4 := below_append HB2.out O2.out hg4 (Nat.le_refl _)
          have A4 := HA2.out.grown hg4 (HA2.out.ne_strs O2.out)
          have O4 := Lib.hid ho4
          have S4 := Lib.hid (HKK.out w4 hbw4)
          have HB4 := Lib.hid hbw4
          clear c0 c1 c2
          have c0 := A4.c0
          have c1 := A4.c1
          have c2 := A4.c2
          have HA4 := Lib.hid A4
          have hBs4 := hbw4.size
          clear ho4 hg4 hbw4 A4 HB2 O2 HA2 S2 hBs
          go_wp2_with (at_builtin; refine wpList_append_strs rfl _ _ rfl w.heap.size _ (ls ++ ld) e rfl O4.out x2 x4 e.length rfl rfl hrm.out.1 S4.out hBs4 HLE2.out ?_)
          intro v5 w5 ho5 hg5
          have hbw5 := below_append HB4.out O4.out hg5 (Nat.le_refl _)
          have A5 := HA4.out.grown hg5 (HA4.out.ne_strs O4.out)
          have O5 := Lib.hid ho5
          have HB5 := Lib.hid hbw5
          clear c0 c1 c2
          have c0 := A5.c0
          have c1 := A5.c1
          have c2 := A5.c2
          clear ho5 hg5 hbw5 A5 HB4 O4 HA4 S4 hBs4 HLE1 HLE2 r1
          have i1 : IntKind.i64.wrap ((k2 : Int) + (o.length : Int)) = (k2 : Int) + (o.length : Int) := IntWalk.i64_in _ (by omega)
          go_wp2
          go_roundw
          case rel => exact ⟨k + 1, k2 + o.length, ls ++ ld ++ e, by omega, by go_num, by go_num, hkl, hfrom2, hfwd2, hlen2, hall2, by have h5 := O5.out; first | exact h5 | (rw [← List.append_assoc] at h5; exact h5), HB5.out⟩
          case measure => simp [intOf]; omega
      · obtain rfl : k = hs.length := by omega
        have hst : standB la hs = true := by
          refine List.all_eq_true.2 fun h hh => ?_
          obtain ⟨j, hj, rfl⟩ := List.getElem_of_mem hh
          exact hall.out j hj hj
        have hEE : Hid (E = 0) := by show _ = _; rw [hE.out, hst]; rfl
        have hfin : Hid (ls ++ la.drop dn = T) := by
          show _ = _
          rw [← HT.out, fwd_app HM.out (stands_of HP.out hst), hfwd.out, List.drop_length]
          rfl
        obtain ⟨A', cap', ld, e1, p1, r1⟩ := part_from A la cap dn HR.out hdn
        have hle1 : Hid (ls.length + ld.length ≤ 1000000) := by
          show _ ≤ _
          have h1 := hlen.out
          have h2 := HSUM.out
          have h3 : ld.length ≤ la.length := by rw [e1, List.length_drop]; omega
          omega
        rw [← e1] at hfin
        have HP1 := Lib.hid p1
        have HB := Lib.hid hb
        have hBs := hb.size
        clear hst hE hfrom hfwd hlen hall p1 e1 hb
        go_wp2_with (at_builtin; refine wpList_append_strs rfl _ _ rfl w.heap.size _ ls ld rfl hown.out A' cap' ld.length rfl rfl HP1.out.room.1 (HP1.out.strs _ _ (HA.out.on HB.out)) hBs hle1.out ?_)
        intro v4 w4 ho4 hg4
        have hbw4 := below_append HB.out hown.out hg4 (Nat.le_refl _)
        obtain ⟨A4, cap4, rfl, hs4, _, _⟩ := ho4.strs
        have HR4 := Lib.hid ho4.at_.2.1
        have HS4 := Lib.hid hs4
        have HB4 := Lib.hid hbw4
        clear ho4 hg4 hs4 hbw4
        go_wp2
        go_ret2
        rw [hEE.out]
        exact ⟨A4, cap4, ls ++ ld, rfl, ⟨fun _ => hfin.out, fun h => absurd rfl h⟩, HR4.out, HS4.out, HB4.out⟩
  · rw [if_neg hmay] at her
    subst her
    have hE : Hid (applE la hs = 6) := by show _ = _; unfold applE; rw [if_neg hmay]
    clear hmay
    rw [hE.out]
    go_enter Tryz.func139, Tryz.ntmps139
    go_wp2_with fail
    refine CC.out.mono ?_
    rintro e w1 ⟨rfl, hb1⟩
    have HB1 := Lib.hid hb1
    clear hb1 CC
    go_wp2
    go_ret2
    exact told_none _ _ _ _ (by decide) HB1.out
end Go.Proofs.YtalabahjfmcnbaaGreatDoor
