
/- The reference's Same of layer 4; the statements' Light of hunks. -/
import Derived.Test.YtmffmhadimeplaaHunk
import Derived.Test.YtmffmhadimeplaaSame
import Derived.Test.YtmffmhadimeplaaLight03
import Derived.Test.YtmffmhadimeplaaHeld
namespace Go.Proofs.Ytmffmhadimeplaa
open Go.RowKit
set_option linter.unusedVariables false

/-- What a hunk says. -/
def Hm.key (h : Hm) : Int × List (List UInt8) × List (List UInt8) := (h.at_, h.old, h.new)
def keys (hs : List Hm) : List (Int × List (List UInt8) × List (List UInt8)) := hs.map Hm.key
/-- Lists of lines that are not far too long. -/
def Small (hs : List Hm) : Prop := hs.length ≤ 1000000 ∧ ∀ h ∈ hs, h.old.length ≤ 1000000 ∧ h.new.length ≤ 1000000
theorem same_qq (A A2 : Option Addr) (la lc : List (List UInt8)) (cap cap2 : Nat) (w : World) (d : Bool) (hd : decide (la = lc) = d) (hs : Strs w w.heap.size A (toBs la)) (ht : Strs w w.heap.size A2 (toBs lc)) (hn : la.length ≤ 1000000) (hn2 : lc.length ≤ 1000000) (n : Nat) :
    Calls Try.prog 15 #[.slice A la.length cap, .slice A2 lc.length cap2] (w.drewN n) fun e w' => e = .returned (.bool d) ∧ ∃ m, w' = w.drewN m := by
  have h := same_q A A2 (toBs la) (toBs lc) cap cap2 (w.drewN n) hs ht (by rw [toBs_len]; omega) (by rw [toBs_len]; omega)
  rw [toBs_len, toBs_len, show decide (toBs la = toBs lc) = d from by
    rw [← hd]
    congr 1
    refine propext ⟨fun h => ?_, fun h => by rw [h]⟩
    have := congrArg lists h
    rwa [lists_toBs, lists_toBs] at this] at h
  exact Calls.quiet_of h

set_option maxHeartbeats 1000000 in
set_option maxRecDepth 100000 in
theorem refsameh_any (A A2 : Option Addr) (hs ks : List Hm) (cap cap2 : Nat) (w : World) (hk : Hks w w.heap.size A hs) (gk : Hks w w.heap.size A2 ks) (hn : Small hs) (gn : Small ks) :
    Calls Try.prog 13 #[.slice A hs.length cap, .slice A2 ks.length cap2] w fun e w' => e = .returned (.bool (decide (keys hs = keys ks))) ∧ ∃ q, w' = w.drewN q := by
  have HN := hn.1
  have GN := gn.1
  by_cases hl : hs.length = ks.length
  · have Hl := Lib.hid hl
    have hb1 : (((hs.length : Int)) != (ks.length : Int)) = false := by simp; omega
    have HK := Lib.hid hk
    have GK := Lib.hid gk
    have HS := Lib.hid hn.2
    have GS := Lib.hid gn.2
    clear hl hk gk hn gn
    go_enter Try.func13, Try.ntmps13
    go_wp2
    go_loopw [5] (fun i wr => ∃ k : Nat, k ≤ hs.length ∧ i = .int .i64 (k : Int) ∧ Hid (∀ j (hj : j < hs.length) (hj2 : j < ks.length), j < k → hs[j].key = ks[j].key) ∧ Hid (∃ q, wr = w.drewN q)) (fun i _ => hs.length - (intOf i).toNat)
    case atStart => exact ⟨0, Nat.zero_le _, rfl, fun j _ _ h => absurd h (by omega), 0, rfl⟩
    case round =>
      obtain ⟨k, hk, rfl, hall, hq⟩ := hrel
      have hb : Below w.heap.size w wr := by obtain ⟨q, rfl⟩ := hq.out; exact below_drewN (Below.refl _ _) q
      by_cases hlt : k < hs.length
      · have hlt2 : k < ks.length := by have := Hl.out; omega
        have hK := HK.out.on hb
        have gK := GK.out.on hb
        obtain ⟨b, off, rfl, _, h1, h2, h3⟩ := hK.get hlt
        obtain ⟨b2, off2, rfl, _, g1, g2, g3⟩ := gK.get hlt2
        have ok := hK.ok hs[k] (List.getElem_mem _)
        have ok2 := gK.ok ks[k] (List.getElem_mem _)
        obtain ⟨s1, s2⟩ := HS.out hs[k] (List.getElem_mem _)
        obtain ⟨s3, s4⟩ := GS.out ks[k] (List.getElem_mem _)
        have CO := Lib.hid (same_qq hs[k].a1 ks[k].a1 hs[k].old ks[k].old hs[k].c1 ks[k].c1 wr _ rfl ok.old ok2.old s1 s3)
        have CN := Lib.hid (same_qq hs[k].a2 ks[k].a2 hs[k].new ks[k].new hs[k].c2 ks[k].c2 wr _ rfl ok.new ok2.new s2 s4)
        have hno : Hid (¬ (hs[k].key = ks[k].key) → decide (keys hs = keys ks) = false) := by
          intro hne
          rw [decide_eq_false_iff_not]
          intro e
          have e2 := congrArg (fun l => l[k]?) e
          simp only [keys, List.getElem?_map, List.getElem?_eq_getElem hlt, List.getElem?_eq_getElem hlt2, Option.map_some, Option.some.injEq] at e2
          exact hne e2
        have hyes : Hid (hs[k].key = ks[k].key → ∀ j (hj : j < hs.length) (hj2 : j < ks.length), j < k + 1 → hs[j].key = ks[j].key) := by
          intro he j hj hj2 hjk
          by_cases hjk2 : j = k
          · subst hjk2; exact he
          · exact hall.out j hj hj2 (by omega)
        have key : Hid ((hs[k].key = ks[k].key) = (hs[k].at_ = ks[k].at_ ∧ hs[k].old = ks[k].old ∧ hs[k].new = ks[k].new)) := by
          show _ = _
          simp [Hm.key]
        rw [key.out] at hno hyes
        clear hall ok ok2 key hK gK s1 s2 s3 s4
        generalize hs[k].at_ = n at *
        generalize ks[k].at_ = n2 at *
        generalize hs[k].old = o1 at *
        generalize ks[k].old = o2 at *
        generalize hs[k].new = e1 at *
        generalize ks[k].new = e2 at *
        generalize hs[k].a1 = x1 at *
        generalize hs[k].a2 = x2 at *
        generalize hs[k].c1 = x3 at *
        generalize hs[k].c2 = x4 at *
        generalize ks[k].a1 = y1 at *
        generalize ks[k].a2 = y2 at *
        generalize ks[k].c1 = y3 at *
        generalize ks[k].c2 = y4 at *
        have fin : ∀ m, Hid (∃ q, wr.drewN m = w.drewN q) := by
          obtain ⟨q, rfl⟩ := hq.out
          exact fun m => ⟨q + m, World.drewN_drewN _ _ _⟩
        by_cases ha : n = n2
        · subst ha
          have w1 : (n != n) = false := by simp
          by_cases ho : o1 = o2
          · rw [decide_eq_true ho] at CO
            by_cases he : e1 = e2
            · rw [decide_eq_true he] at CN
              have hnew := Lib.hid (hyes.out ⟨rfl, ho, he⟩)
              clear hno hyes ho he hq
              go_wp2
              go_quiet ((go_at_call 15; first | with_reducible exact CO.out _ | with_reducible exact CN.out _))
              go_wp2
              go_roundw
              case rel => exact ⟨k + 1, by omega, by go_num, hnew, (fin _).out⟩
              case measure => simp [intOf]; omega
            · rw [decide_eq_false he] at CN
              have hfin := Lib.hid (hno.out fun h => he h.2.2)
              clear hno hyes ho he hq
              go_wp2
              go_quiet ((go_at_call 15; first | with_reducible exact CO.out _ | with_reducible exact CN.out _))
              go_wp2
              go_ret
              rw [hfin.out]
              exact ⟨rfl, (fin _).out⟩
          · rw [decide_eq_false ho] at CO
            have hfin := Lib.hid (hno.out fun h => ho h.2.1)
            clear hno hyes ho hq
            go_wp2
            go_quiet ((go_at_call 15; first | with_reducible exact CO.out _ | with_reducible exact CN.out _))
            go_wp2
            go_ret
            rw [hfin.out]
            exact ⟨rfl, (fin _).out⟩
        · have w1 : (n != n2) = true := by rw [bne_iff_ne]; exact ha
          have hfin := Lib.hid (hno.out fun h => ha h.1)
          clear hno hyes ha hq
          go_wp2
          go_quiet ((go_at_call 15; first | with_reducible exact CO.out _ | with_reducible exact CN.out _))
          go_wp2
          go_ret
          rw [hfin.out]
          exact ⟨rfl, (fin _).out⟩
      · have hk2 : k = hs.length := by omega
        subst hk2
        have hyes : Hid (decide (keys hs = keys ks) = true) := by
          show _ = _
          rw [decide_eq_true_eq]
          refine List.ext_getElem (by simp [keys]; exact Hl.out) fun j h1 h2 => ?_
          simp only [keys, List.getElem_map]
          simp only [keys, List.length_map] at h1 h2
          exact hall.out j h1 h2 h1
        have HQ := Lib.hid hq.out
        clear hall hq
        go_wp2
        go_ret
        rw [hyes.out]
        exact ⟨rfl, HQ.out⟩
  · have hno : Hid (decide (keys hs = keys ks) = false) := by
      show _ = _
      rw [decide_eq_false_iff_not]
      intro h
      have := congrArg List.length h
      simp [keys] at this
      exact hl this
    have hb1 : (((hs.length : Int)) != (ks.length : Int)) = true := by simp; omega
    clear hk gk
    go_enter Try.func13, Try.ntmps13
    go_wp2
    go_ret
    rw [hno.out]
    exact ⟨rfl, 0, rfl⟩
end Go.Proofs.Ytmffmhadimeplaa
