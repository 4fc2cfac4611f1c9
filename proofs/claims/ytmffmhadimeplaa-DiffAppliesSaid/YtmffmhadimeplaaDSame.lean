
/- Package diff's Same: the library's EqualFunc over sameHunk. -/
import Derived.Test.YtmffmhadimeplaaDSize
namespace Go.Proofs.Ytmffmhadimeplaa
open Go.RowKit
set_option linter.unusedVariables false

set_option maxHeartbeats 1000000 in
set_option maxRecDepth 100000 in
theorem equalfunc_any (A A2 : Option Addr) (hs ks : List Hm) (cap cap2 : Nat) (w : World) (d : Bool) (hd : d = decide (keys hs = keys ks)) (hk : Hks w w.heap.size A hs) (gk : Hks w w.heap.size A2 ks) (hn : Small hs) (gn : Small ks) :
    Calls Try.prog 29 #[.slice A hs.length cap, .slice A2 ks.length cap2, .func (.func 30) #[] #[]] w fun e w' => e = .returned (.bool d) ∧ Below w.heap.size w w' := by
  have HN := hn.1
  have GN := gn.1
  have HD := Lib.hid hd
  clear hd
  by_cases hl : hs.length = ks.length
  · have Hl := Lib.hid hl
    have hb1 : (((hs.length : Int)) != (ks.length : Int)) = false := by simp; omega
    have HK := Lib.hid hk
    have GK := Lib.hid gk
    have HS := Lib.hid hn.2
    have GS := Lib.hid gn.2
    clear hl hk gk hn gn
    go_enter Try.func29, Try.ntmps29
    go_wp2
    go_loopw [17] (fun i wr => ∃ k : Nat, k ≤ hs.length ∧ i = .int .i64 (k : Int) ∧ Hid (∀ j (hj : j < hs.length) (hj2 : j < ks.length), j < k → hs[j].key = ks[j].key) ∧ Below w.heap.size w wr) (fun i _ => hs.length - (intOf i).toNat)
    case atStart => exact ⟨0, Nat.zero_le _, rfl, fun j _ _ h => absurd h (by omega), Below.refl _ _⟩
    case round =>
      obtain ⟨k, hk, rfl, hall, hb⟩ := hrel
      by_cases hlt : k < hs.length
      · have hlt2 : k < ks.length := by have := Hl.out; omega
        have hK := HK.out.on hb
        have gK := GK.out.on hb
        have hK2 := hK
        have gK2 := gK
        obtain ⟨b, off, rfl, bl1, h1, h2, h3⟩ := hK.get hlt
        obtain ⟨b2, off2, rfl, bl2, g1, g2, g3⟩ := gK.get hlt2
        have ok := hK.ok hs[k] (List.getElem_mem _)
        have ok2 := gK.ok ks[k] (List.getElem_mem _)
        have s1 := HS.out hs[k] (List.getElem_mem _)
        have s3 := GS.out ks[k] (List.getElem_mem _)
        have hba : Below wr.heap.size wr ((wr.alloc (.cells #[.int .i64 hs[k].at_, .slice hs[k].a1 hs[k].old.length hs[k].c1, .slice hs[k].a2 hs[k].new.length hs[k].c2] 47)).alloc (.cells #[.int .i64 ks[k].at_, .slice ks[k].a1 ks[k].old.length ks[k].c1, .slice ks[k].a2 ks[k].new.length ks[k].c2] 47)) :=
          ((Below.refl _ _).alloc (Nat.le_refl _) _).alloc (by simp) _
        have CS := samehunk_any hs[k] ks[k] _ _ rfl (ok.on hba) (ok2.on hba) s1 s3
        have hbB := hb.trans (hba.mono hb.size)
        have hno : Hid (¬ (hs[k].key = ks[k].key) → decide (keys hs = keys ks) = false) := by
          intro hne
          rw [decide_eq_false_iff_not]
          intro e
          have e2 := congrArg (fun l => l[k]?) e
          simp only [keys, List.getElem?_map, List.getElem?_eq_getElem hlt, List.getElem?_eq_getElem hlt2, Option.map_some, Option.some.injEq] at e2
          exact hne e2
        have hyes : Hid (hs[k].key = ks[k].key → ∀ j (hj : j < hs.length) (hj2 : j < ks.length), j < k + 1 → hs[j].key = ks[j].key) := by
          intro he j hj hj2 hjk
          by_cases hjk2 : j = k
          · subst hjk2; exact he
          · exact hall.out j hj hj2 (by omega)
        by_cases he : hs[k].key = ks[k].key
        · have hnew := Lib.hid (hyes.out he)
          rw [decide_eq_true he] at CS
          have HC := Lib.hid CS
          have HB := Lib.hid hbB
          clear hyes hno he hall ok ok2 hK gK s1 s3 CS hba hbB hK2 gK2
          generalize hs[k].at_ = n at *
          generalize ks[k].at_ = n2 at *
          generalize hs[k].old.length = o1 at *
          generalize ks[k].old.length = o2 at *
          generalize hs[k].new.length = e1 at *
          generalize ks[k].new.length = e2 at *
          generalize hs[k].a1 = x1 at *
          generalize hs[k].a2 = x2 at *
          generalize hs[k].c1 = x3 at *
          generalize hs[k].c2 = x4 at *
          generalize ks[k].a1 = y1 at *
          generalize ks[k].a2 = y2 at *
          generalize ks[k].c1 = y3 at *
          generalize ks[k].c2 = y4 at *
          go_wp2_with fail
          refine HC.out.mono ?_
          rintro e w1 ⟨rfl, hb1⟩
          have HB2 := Lib.hid (HB.out.trans (hb1.mono HB.out.size))
          clear hb1
          go_wp2
          go_roundw
          case rel => exact ⟨k + 1, by omega, by go_num, hnew, HB2.out⟩
          case measure => simp [intOf]; omega
        · have hfin := Lib.hid (hno.out he)
          rw [decide_eq_false he] at CS
          have HC := Lib.hid CS
          have HB := Lib.hid hbB
          clear hyes hno he hall ok ok2 hK gK s1 s3 CS hba hbB hK2 gK2
          generalize hs[k].at_ = n at *
          generalize ks[k].at_ = n2 at *
          generalize hs[k].old.length = o1 at *
          generalize ks[k].old.length = o2 at *
          generalize hs[k].new.length = e1 at *
          generalize ks[k].new.length = e2 at *
          generalize hs[k].a1 = x1 at *
          generalize hs[k].a2 = x2 at *
          generalize hs[k].c1 = x3 at *
          generalize hs[k].c2 = x4 at *
          generalize ks[k].a1 = y1 at *
          generalize ks[k].a2 = y2 at *
          generalize ks[k].c1 = y3 at *
          generalize ks[k].c2 = y4 at *
          go_wp2_with fail
          refine HC.out.mono ?_
          rintro e w1 ⟨rfl, hb1⟩
          have HB2 := Lib.hid (HB.out.trans (hb1.mono HB.out.size))
          clear hb1
          go_wp2
          go_ret
          rw [HD.out, hfin.out]
          exact ⟨rfl, HB2.out⟩
      · have hk2 : k = hs.length := by omega
        subst hk2
        have hyes : Hid (decide (keys hs = keys ks) = true) := by
          show _ = _
          rw [decide_eq_true_eq]
          refine List.ext_getElem (by simp [keys]; exact Hl.out) fun j h1 h2 => ?_
          simp only [keys, List.getElem_map]
          simp only [keys, List.length_map] at h1 h2
          exact hall.out j h1 h2 h1
        clear hall
        go_wp2
        go_ret
        rw [HD.out, hyes.out]
        exact ⟨rfl, hb⟩
  · have hno : Hid (decide (keys hs = keys ks) = false) := by
      show _ = _
      rw [decide_eq_false_iff_not]
      intro h
      have := congrArg List.length h
      simp [keys] at this
      exact hl this
    have hb1 : (((hs.length : Int)) != (ks.length : Int)) = true := by simp; omega
    clear hk gk
    go_enter Try.func29, Try.ntmps29
    go_wp2
    go_ret
    rw [HD.out, hno.out]
    exact ⟨rfl, Below.refl _ _⟩
theorem same_c : SameC := by
  intro A A2 hs ks cap cap2 w hk gk hn gn
  obtain ⟨d, hd⟩ : ∃ d, d = decide (keys hs = keys ks) := ⟨_, rfl⟩
  have C := Lib.hid (equalfunc_any A A2 hs ks cap cap2 w d hd hk gk hn gn)
  rw [← hd]
  clear hk gk hn gn hd
  go_enter Try.func20, Try.ntmps20
  go_wp2_with fail
  refine C.out.mono ?_
  rintro e w1 ⟨rfl, hb⟩
  go_wp2
  go_ret
  exact ⟨rfl, hb⟩
end Go.Proofs.Ytmffmhadimeplaa
