
/- Package diff's Invert. -/
import Derived.Test.YtmffmhadimeplaaDHRow
import Derived.Test.YtmffmhadimeplaaDApply
namespace Go.Proofs.Ytmffmhadimeplaa
open Go.RowKit
set_option linter.unusedVariables false

set_option maxHeartbeats 2000000 in
set_option maxRecDepth 100000 in
theorem invert_c : InvertC := by
  intro A hs cap w hk hR hsm hn hat
  have HK := Lib.hid hk
  have HS := Lib.hid hsm.2
  obtain ⟨er, her⟩ : ∃ er : Int, er = if mayB hs then 0 else 6 := ⟨_, rfl⟩
  have CC := Lib.hid (check_any A hs cap w hk (by omega) hsm er her)
  clear hk hR hsm
  by_cases hmay : mayB hs = true
  · rw [if_pos hmay] at her
    subst her
    obtain ⟨hpos, hm, _⟩ := mayF_plain hs none hmay
    have HP := Lib.hid hpos
    have HM := Lib.hid (show May (plains hs) from hm)
    have HAT := Lib.hid (hat hmay)
    have HMAY := Lib.hid hmay
    clear hmay hpos hm hat
    go_enter Try.func10, Try.ntmps10
    go_wp2_with fail
    refine CC.out.mono ?_
    rintro e w1 ⟨rfl, hb1⟩
    have HB1 := Lib.hid hb1
    clear hb1 CC
    go_wp2
    go_loopw [3, 4, 12] (fun v mv iv wr => ∃ (k i j : Nat) (mo : Int) (ks : List Hm), k ≤ hs.length ∧ iv = .int .i64 (k : Int) ∧ mv = .int .i64 mo ∧ -(k * 1000000) ≤ mo ∧ mo ≤ k * 1000000 ∧ Hid (ks.length = k) ∧ Hid ((j : Int) = i + mo) ∧ Hid (From i (plains (hs.drop k))) ∧ Hid (inv 0 0 (plains hs) = plains ks ++ inv i j (plains (hs.drop k))) ∧
        Hid (HRow wr w.heap.size v ks) ∧ Below w.heap.size w wr) (fun _ _ iv _ => hs.length - (intOf iv).toNat)
    case atStart =>
      exact ⟨0, 0, 0, 0, [], Nat.zero_le _, rfl, rfl, by simp, by simp, rfl, rfl, by show From _ _; cases plains (hs.drop 0) <;> simp [From], rfl, HRow.nil _ _, HB1.out⟩
    case round =>
      obtain ⟨k, i, j, mo, ks, hk, rfl, rfl, hmo1, hmo2, hkl, hij, hfrom, hinv, hrow, hb⟩ := hrel
      clear HB1
      by_cases hlt : k < hs.length
      · have hK := HK.out.on hb
        obtain ⟨g, off, rfl, hgl, h1, h2, h3⟩ := hK.get hlt
        have ok := hK.ok hs[k] (List.getElem_mem _)
        have hp := HP.out hs[k] (List.getElem_mem _)
        have hp2 := HAT.out hs[k] (List.getElem_mem _)
        have s1 := HS.out hs[k] (List.getElem_mem _)
        obtain ⟨k2, hk2⟩ : ∃ k2 : Nat, hs[k].at_ = (k2 : Int) := ⟨hs[k].at_.toNat, by omega⟩
        have hba : Below wr.heap.size wr (wr.alloc (.cells #[.int .i64 hs[k].at_, .slice hs[k].a1 hs[k].old.length hs[k].c1, .slice hs[k].a2 hs[k].new.length hs[k].c2] 47)) := (Below.refl _ _).alloc (Nat.le_refl _) _
        have hbB := hb.trans (hba.mono hb.size)
        have hat : HunkAt (wr.alloc (.cells #[.int .i64 hs[k].at_, .slice hs[k].a1 hs[k].old.length hs[k].c1, .slice hs[k].a2 hs[k].new.length hs[k].c2] 47)) wr.heap.size ⟨hs[k].at_, hs[k].a1, hs[k].c1, hs[k].old, hs[k].a2, hs[k].c2, hs[k].new⟩ := HunkAt.new_ wr hs[k]
        have okA := ok.on hba
        have hpl := plains_drop hs k hlt
        have hfr := hfrom.out
        have hiv := hinv.out
        have hmd := may_drop HM.out k
        rw [hpl] at hfr hiv hmd
        have hat2 : hs[k].plain.at_ = k2 := by simp [Hm.plain, hk2]
        have hik : i ≤ k2 := by rw [← hat2]; exact hfr
        have hij' := hij.out
        have hfrom2 : Hid (From (k2 + hs[k].old.length) (plains (hs.drop (k + 1)))) := by
          have := hmd.2.1
          rw [hat2] at this
          exact this.mono (by show _ ≤ k2 + hs[k].old.length + 1; omega)
        have hat3 : (k2 : Int) + mo = ((j + (k2 - i) : Nat) : Int) := by omega
        have hinv2 : Hid (∀ x : Hm, x.at_ = (k2 : Int) + mo → x.old = hs[k].new → x.new = hs[k].old → inv 0 0 (plains hs) = plains (ks ++ [x]) ++ inv (k2 + hs[k].old.length) (j + (k2 - i) + hs[k].new.length) (plains (hs.drop (k + 1)))) := by
          intro x e1 e2 e3
          have ex : x.plain = ⟨j + (k2 - i), hs[k].new, hs[k].old⟩ := by
            unfold Hm.plain
            rw [e1, e2, e3, hat3, Int.toNat_natCast]
          rw [plains_snoc, ex, hiv, inv, hat2, List.append_assoc]
          rfl
        have hij2 : Hid (((j + (k2 - i) + hs[k].new.length : Nat) : Int) = ((k2 + hs[k].old.length : Nat) : Int) + (mo + ((hs[k].new.length : Int) - (hs[k].old.length : Int)))) := by show _ = _; omega
        have hlo : -(((k + 1 : Nat) : Int) * 1000000) ≤ mo + ((hs[k].new.length : Int) - (hs[k].old.length : Int)) := by omega
        have hhi : mo + ((hs[k].new.length : Int) - (hs[k].old.length : Int)) ≤ ((k + 1 : Nat) : Int) * 1000000 := by omega
        have CH := hunk_any ((k2 : Int) + mo) hs[k].a2 hs[k].a1 hs[k].new hs[k].old hs[k].c2 hs[k].c1 _ okA.new okA.old ok.r2 ok.r1 s1.2 s1.1 (by omega) (by omega)
        have hge : 0 ≤ (k2 : Int) + mo := by omega
        have HC := Lib.hid CH
        have HBB := Lib.hid hbB
        have HBA := Lib.hid hba
        have HHAT := Lib.hid hat
        have HGE := Lib.hid hge
        have HLO := Lib.hid hlo
        have HHI := Lib.hid hhi
        have hs1 := s1.1
        have hs2 := s1.2
        have hkk : ks.length ≤ 100000 := by have := hkl.out; omega
        clear CH hbB hba hat ok hK hp s1 hpl hfr hiv hmd hat2 hfrom hinv okA hge hij' hat3 hlo hhi hij
        rw [hk2] at h1 hp2 HC HHAT HBB HBA
        clear hk2
        generalize hs[k].old = o at *
        generalize hs[k].new = e at *
        generalize hs[k].a1 = x1 at *
        generalize hs[k].a2 = x2 at *
        generalize hs[k].c1 = x3 at *
        generalize hs[k].c2 = x4 at *
        go_wp2_with fail
        refine HC.out.mono ?_
        rintro e2 w2 ⟨y, he, ⟨y1, y2, y3⟩, oky, tyy, hb2⟩
        have he' : e2 = .returned (.agg #[.int .i64 y.at_, .slice y.a1 y.old.length y.c1, .slice y.a2 y.new.length y.c2]) := he
        subst he'
        have hbw2 := HBB.out.trans (hb2.mono HBB.out.size)
        have R2 := (hrow.out.on HBA.out).on hb2
        have A2' := HHAT.out.on hb2
        have hlt2 := hrow.out.lt
        have hal : Below w2.heap.size w2 (w2.alloc (.cells #[.int .i64 y.at_, .slice y.a1 y.old.length y.c1, .slice y.a2 y.new.length y.c2] 47)) := (Below.refl _ _).alloc (Nat.le_refl _) _
        have R3 := Lib.hid (R2.on hal)
        have A3' := Lib.hid (A2'.on hal)
        have N3 : Hid (HunkAt (w2.alloc (.cells #[.int .i64 y.at_, .slice y.a1 y.old.length y.c1, .slice y.a2 y.new.length y.c2] 47)) w2.heap.size y) := HunkAt.new_ w2 y
        have hbw3 := hbw2.trans (hal.mono hbw2.size)
        have Y3 := Lib.hid (show y.Ok _ _ ∧ (Typed _ y.a1 y.old ∧ Typed _ y.a2 y.new) ∧ 0 ≤ y.at_ from ⟨oky.on hal, ⟨tyy.1.on hal, tyy.2.on hal⟩, by rw [y1]; exact HGE.out⟩)
        have HN2 := Lib.hid (hinv2.out y y1 y2 y3)
        have HB3 := Lib.hid hbw3
        have HLT2 := Lib.hid hlt2
        have hsz := hbw3.size
        clear he hb2 hbw2 R2 A2' hal hbw3 oky tyy HC HBB HBA HHAT hrow hinv2 y1 y2 y3 hlt2
        go_wp2_with (at_builtin; refine wpList_append_hunk rfl _ _ rfl w.heap.size _ ks rfl R3.out.own y w2.heap.size rfl N3.out hsz hkk _ rfl ?_)
        intro gb capb w4 ho4 hg4 _
        have hb4 := below_hrow HB3.out R3.out hg4 (Nat.le_refl _)
        have R4 := Lib.hid (R3.out.push Y3.out ho4 hg4)
        have A4 := A3'.out.grown hg4 (fun e => by have := HLT2.out _ e; omega)
        have c1 := A4.c1
        have c2 := A4.c2
        have HB4 := Lib.hid hb4
        have hln : Hid ((ks ++ [y]).length = k + 1) := by show _ = _; rw [List.length_append, hkl.out]; rfl
        clear hb4 ho4 hg4 A4 A3' N3 Y3 R3 HB3 HLT2
        go_wp2
        go_roundw
        case rel => exact ⟨k + 1, k2 + o.length, j + (k2 - i) + e.length, mo + ((e.length : Int) - (o.length : Int)), ks ++ [y], by omega, by go_num, by go_num, HLO.out, HHI.out, hln, hij2, hfrom2, HN2.out, R4.out, HB4.out⟩
        case measure => simp [intOf]; omega
      · obtain rfl : k = hs.length := by omega
        have hfin : Hid (plains ks = inv 0 0 (plains hs)) := by
          show _ = _
          rw [hinv.out, List.drop_length]
          simp [plains, inv]
        obtain ⟨A4, cap4, rfl, hk4, hr4⟩ := hrow.out.hks
        have HPOS := Lib.hid fun x hx => (hrow.out.ok x hx).2.2
        have HK4 := Lib.hid hk4
        have HR4 := Lib.hid hr4
        clear hinv hrow hk4 hr4 hij hfrom
        go_wp2
        go_ret
        exact ⟨A4, cap4, ks, rfl, ⟨fun _ => ⟨hfin.out, HPOS.out⟩, fun h => by have := HMAY.out; rw [this] at h; cases h⟩, HR4.out, HK4.out, hb⟩
  · rw [if_neg hmay] at her
    subst her
    have HMAY := Lib.hid hmay
    clear hmay hat
    go_enter Try.func10, Try.ntmps10
    go_wp2_with fail
    refine CC.out.mono ?_
    rintro e w1 ⟨rfl, hb1⟩
    have HB1 := Lib.hid hb1
    clear hb1 CC
    go_wp2
    go_ret
    exact ⟨none, 0, [], rfl, ⟨fun h => absurd h HMAY.out, fun _ => rfl⟩, ⟨fun _ => rfl, Nat.le_refl _⟩, Hks.nil, HB1.out⟩
end Go.Proofs.Ytmffmhadimeplaa
