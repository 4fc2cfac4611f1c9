
/- The reference's Same and Without of layer 6. -/
import Derived.Test.YtcjiipmageddhaaDoorRefFind
import Derived.Test.YtcjiipmageddhaaDoorSame
namespace Go.Proofs.YtcjiipmageddhaaDoor
open Go.RowKit
set_option linter.unusedVariables false

theorem rsame_d (A A2 : Option Addr) (la lc : List (List UInt8)) (cap cap2 : Nat) (w : World) (d : Bool) (hd : decide (la = lc) = d) (hs : Strs w w.heap.size A (toBs la)) (ht : Strs w w.heap.size A2 (toBs lc)) (hn : la.length ≤ 1000000) (hn2 : lc.length ≤ 1000000) (n : Nat) :
    Calls Tryd.prog 14 #[.slice A la.length cap, .slice A2 lc.length cap2] (w.drewN n) fun e w' => e = .returned (.bool d) ∧ ∃ m, w' = w.drewN m :=
  Calls.quiet_of (rsame_l A A2 la lc cap cap2 (w.drewN n) d hd hs ht hn hn2)
/-- No file has too many lines. -/
def Short (fs : List Fm) : Prop := fs.length ≤ 1000000 ∧ ∀ f ∈ fs, f.ls.length ≤ 1000000

set_option maxHeartbeats 2000000 in
set_option maxRecDepth 100000 in
theorem refsamef_any (A A2 : Option Addr) (hs ks : List Fm) (cap cap2 : Nat) (w : World) (d : Bool) (hd : decide (fkeys hs = fkeys ks) = d) (hk : Fs w w.heap.size A hs) (gk : Fs w w.heap.size A2 ks) (hn : Short hs) (gn : Short ks) :
    Calls Tryd.prog 10 #[.slice A hs.length cap, .slice A2 ks.length cap2] w fun e w' => e = .returned (.bool d) ∧ ∃ q, w' = w.drewN q := by
  have HN := hn.1
  have GN := gn.1
  have HD := Lib.hid hd
  clear hd
  by_cases hl : hs.length = ks.length
  · have Hl := Lib.hid hl
    have hb1 : (((hs.length : Int)) != (ks.length : Int)) = false := by simp; omega
    have HK := Lib.hid hk
    have GK := Lib.hid gk
    have HS := Lib.hid hn.2
    have GS := Lib.hid gn.2
    clear hl hk gk hn gn
    go_enter Tryd.func10, Tryd.ntmps10
    go_wp2
    go_loopw [5] (fun i wr => ∃ k : Nat, k ≤ hs.length ∧ i = .int .i64 (k : Int) ∧ Hid (∀ j (hj : j < hs.length) (hj2 : j < ks.length), j < k → hs[j].key = ks[j].key) ∧ Hid (∃ q, wr = w.drewN q)) (fun i _ => hs.length - (intOf i).toNat)
    case atStart => exact ⟨0, Nat.zero_le _, rfl, fun j _ _ h => absurd h (by omega), 0, rfl⟩
    case round =>
      obtain ⟨k, hk, rfl, hall, hq⟩ := hrel
      have hb : Below w.heap.size w wr := by obtain ⟨q, rfl⟩ := hq.out; exact below_drewN (Below.refl _ _) q
      by_cases hlt : k < hs.length
      · have hlt2 : k < ks.length := by have := Hl.out; omega
        have hK := HK.out.on hb
        have gK := GK.out.on hb
        obtain ⟨b, off, rfl, _, h1, h2, h3⟩ := hK.get hlt
        obtain ⟨b2, off2, rfl, _, g1, g2, g3⟩ := gK.get hlt2
        have ok := hK.ok hs[k] (List.getElem_mem _)
        have ok2 := gK.ok ks[k] (List.getElem_mem _)
        have s1 := HS.out hs[k] (List.getElem_mem _)
        have s3 := GS.out ks[k] (List.getElem_mem _)
        have CO := Lib.hid (rsame_d hs[k].a ks[k].a hs[k].ls ks[k].ls hs[k].c ks[k].c wr _ rfl ok.ls ok2.ls s1 s3)
        have hno : Hid (¬ (hs[k].key = ks[k].key) → d = false) := by
          intro hne
          rw [← HD.out, decide_eq_false_iff_not]
          intro e
          have e2 := congrArg (fun l => l[k]?) e
          simp only [fkeys, List.getElem?_map, List.getElem?_eq_getElem hlt, List.getElem?_eq_getElem hlt2, Option.map_some, Option.some.injEq] at e2
          exact hne e2
        have hyes : Hid (hs[k].key = ks[k].key → ∀ j (hj : j < hs.length) (hj2 : j < ks.length), j < k + 1 → hs[j].key = ks[j].key) := by
          intro he j hj hj2 hjk
          by_cases hjk2 : j = k
          · subst hjk2; exact he
          · exact hall.out j hj hj2 (by omega)
        have key : Hid ((hs[k].key = ks[k].key) = (hs[k].p = ks[k].p ∧ hs[k].d = ks[k].d ∧ hs[k].ls = ks[k].ls)) := by
          show _ = _
          simp only [Fm.key, Prod.mk.injEq]
          refine propext ⟨fun h => ⟨bytes_inj h.1, h.2⟩, fun h => ⟨by rw [h.1], h.2⟩⟩
        rw [key.out] at hno hyes
        clear hall ok ok2 key hK gK s1 s3
        generalize hs[k].p = n at *
        generalize ks[k].p = n2 at *
        generalize hs[k].d = o1 at *
        generalize ks[k].d = o2 at *
        generalize hs[k].ls = e1 at *
        generalize ks[k].ls = e2 at *
        generalize hs[k].a = x1 at *
        generalize hs[k].c = x3 at *
        generalize ks[k].a = y1 at *
        generalize ks[k].c = y3 at *
        have fin : ∀ m, Hid (∃ q, wr.drewN m = w.drewN q) := by
          obtain ⟨q, rfl⟩ := hq.out
          exact fun m => ⟨q + m, World.drewN_drewN _ _ _⟩
        by_cases ha : n = n2
        · subst ha
          have w1 : (n.toList == n.toList) = true := by simp
          by_cases ho : o1 = o2
          · subst ho
            have w2 : (o1 == o1) = true := by simp
            by_cases he : e1 = e2
            · rw [decide_eq_true he] at CO
              have hnew := Lib.hid (hyes.out ⟨rfl, rfl, he⟩)
              clear hno hyes he hq
              go_wp2
              go_quiet ((go_at_call 14; exact CO.out _))
              go_wp2
              go_roundw
              case rel => exact ⟨k + 1, by omega, by go_num, hnew, (fin _).out⟩
              case measure => simp [intOf]; omega
            · rw [decide_eq_false he] at CO
              have hfin := Lib.hid (hno.out fun h => he h.2.2)
              clear hno hyes he hq
              go_wp2
              go_quiet ((go_at_call 14; exact CO.out _))
              go_wp2
              go_ret
              rw [hfin.out]
              exact ⟨rfl, (fin _).out⟩
          · have hfin := Lib.hid (hno.out fun h => ho h.2.1)
            have w2 : (o1 == o2) = false := by simpa using ho
            have w3 : (o1 != o2) = true := by simpa using ho
            clear hno hyes hq CO
            go_wp2
            go_quiet (fail)
            go_wp2
            go_ret
            rw [hfin.out]
            exact ⟨rfl, (fin _).out⟩
        · have hfin := Lib.hid (hno.out fun h => ha h.1)
          have w1 := str_ne ha
          clear hno hyes hq CO
          go_wp2
          go_quiet (fail)
          go_wp2
          go_ret
          rw [hfin.out]
          exact ⟨rfl, (fin _).out⟩
      · have hk2 : k = hs.length := by omega
        subst hk2
        have hyes : Hid (d = true) := by
          show _ = _
          rw [← HD.out, decide_eq_true_eq]
          refine List.ext_getElem (by simp [fkeys]; exact Hl.out) fun j h1 h2 => ?_
          simp only [fkeys, List.getElem_map]
          simp only [fkeys, List.length_map] at h1 h2
          exact hall.out j h1 h2 h1
        clear hall
        go_wp2
        go_ret
        rw [hyes.out]
        exact ⟨rfl, hq.out⟩
  · have hno : Hid (d = false) := by
      show _ = _
      rw [← HD.out, decide_eq_false_iff_not]
      intro h
      have := congrArg List.length h
      simp [fkeys] at this
      exact hl this
    have hb1 : (((hs.length : Int)) != (ks.length : Int)) = true := by simp; omega
    clear hk gk
    go_enter Tryd.func10, Tryd.ntmps10
    go_wp2
    go_ret
    rw [hno.out]
    exact ⟨rfl, 0, rfl⟩
end Go.Proofs.YtcjiipmageddhaaDoor
