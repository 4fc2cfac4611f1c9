/- The reference's Has, Set, Keep. The reference's Same: are two lists of texts the same? -/
import Derived.Test.YtoajckhfnadhjaaGreatDoorShelf
import Derived.BigQuiet
import Derived.BigRegion
import Derived.Deep.QuietTactic
import Derived.Handy
import Derived.Test.YtoajckhfnadhjaaGreatDoorCk16
import Derived.Test.YtoajckhfnadhjaaGreatDoorCk31
namespace Go.Proofs.YtoajckhfnadhjaaGreatDoor
open Go.RowKit
set_option linter.unusedVariables false

set_option maxRecDepth 100000 in
theorem refhas_any (A : Option Addr) (ss : List ByteArray) (cap : Nat) (s : ByteArray) (w : World) (hs : Strs w w.heap.size A ss) (hn : ss.length ≤ 1000000) :
    Calls Tryz.prog 62 #[.slice A ss.length cap, .string s] w fun e w' => e = .returned (.bool (decide (s.data.toList ∈ lists ss))) ∧ w = w' := by
  go_enter Tryz.func62, Tryz.ntmps62
  go_wp2
  go_loop [5] (fun i => ∃ k : Nat, k ≤ ss.length ∧ i = .int .i64 (k : Int) ∧ Hid (∀ j (hj : j < ss.length), j < k → ss[j] ≠ s)) (fun i => ss.length - (intOf i).toNat)
  case atStart => exact ⟨0, Nat.zero_le _, rfl, fun j _ h => absurd h (by omega)⟩
  case round =>
    obtain ⟨k, hk, rfl, hall⟩ := hrel
    by_cases hlt : k < ss.length
    · obtain ⟨g, off, rfl, hg, hc⟩ := hs.at_ hlt
      by_cases he : ss[k] = s
      · have hyes : Hid (decide (s.data.toList ∈ lists ss) = true) := by
          show _ = _
          rw [decide_eq_true_eq, lists, List.mem_map]
          exact ⟨ss[k], List.getElem_mem _, by rw [he]⟩
        rw [he] at hc
        have hq : (s.toList == s.toList) = true := by simp
        clear hall he hs
        go_wp2
        go_ret
        rw [hyes.out]
        exact ⟨rfl, rfl⟩
      · have hall2 : Hid (∀ j (hj : j < ss.length), j < k + 1 → ss[j] ≠ s) := by
          intro j hj hjk
          by_cases h : j = k
          · subst h; exact he
          · exact hall.out j hj (by omega)
        have hne : (ss[k].toList == s.toList) = false := by
          rw [beq_eq_false_iff_ne]
          intro h
          rw [toList_eq, toList_eq] at h
          exact he (bytes_inj h)
        generalize ss[k] = t at *
        clear hall he hs
        go_wp2
        go_round
        case rel => exact ⟨k + 1, by omega, by go_num, hall2⟩
        case measure => simp [intOf]; omega
    · have hk2 : k = ss.length := by omega
      subst hk2
      have hno : Hid (decide (s.data.toList ∈ lists ss) = false) := by
        show _ = _
        rw [decide_eq_false_iff_not, lists, List.mem_map]
        rintro ⟨t, ht, e⟩
        obtain ⟨j, hj, rfl⟩ := List.getElem_of_mem ht
        exact hall.out j hj hj (bytes_inj e)
      clear hall
      go_wp2
      go_ret
      rw [hno.out]
      exact ⟨rfl, rfl⟩
theorem lists_take_succ (ss : List ByteArray) (k : Nat) (h : k < ss.length) : lists (ss.take (k + 1)) = lists (ss.take k) ++ [ss[k].data.toList] := by
  rw [List.take_succ_eq_append_getElem h, lists, List.map_append]; rfl
theorem less_eq (l : List UInt8) (s : ByteArray) : Op.bytesLess (toB l).toList s.toList = decide (l < s.data.toList) := by
  rw [bytesLess_eq, toList_eq, toList_eq, of_toB]
theorem beq_eq (l : List UInt8) (s : ByteArray) : ((toB l).toList == s.toList) = decide (l = s.data.toList) := by
  rw [toList_eq, toList_eq, of_toB, Bool.eq_iff_iff, beq_iff_eq, decide_eq_true_eq]
theorem toBs_get (ls : List (List UInt8)) (j : Nat) (h : j < (toBs ls).length) : (toBs ls)[j] = toB (ls[j]'(by rw [toBs_len] at h; exact h)) := by simp [toBs]

theorem some_none (x : Addr) (n : Nat) (h : some x = none) : n = 0 := by cases h
theorem base_made (wr : World) (q : Nat) : Below wr.heap.size wr ((wr.drewN q).alloc (.cells #[] 9)) := (below_drewN (Below.refl _ wr) q).alloc (Nat.le_refl _) _
/-- What an append to a row that the call made leaves, of what lay there. -/
theorem hid_below {wr w w' : World} {v : Value} {ls : List (List UInt8)} (hb : Below wr.heap.size wr w) (ho : OwnS w wr.heap.size v ls) (hg : w.grownBy w' v.ownBlock) :
    Hid ((∀ g o {u}, wr.cell? ⟨g, o, none⟩ = some u → g < wr.heap.size → w'.cell? ⟨g, o, none⟩ = some u) ∧ Below wr.heap.size wr w') := by
  have h := below_append hb ho hg (Nat.le_refl _)
  exact ⟨fun g o u hc hl => (h.cell (p := ⟨g, o, none⟩) hl).trans hc, h⟩

set_option maxHeartbeats 1000000 in
set_option maxRecDepth 100000 in
theorem refset_any (A : Option Addr) (ss : List ByteArray) (cap : Nat) (w : World) (hs : Strs w w.heap.size A ss) (hn : ss.length ≤ 100000) :
    Calls Tryz.prog 61 #[.slice A ss.length cap] w fun e w' => ∃ v, e = .returned v ∧ OwnS w' w.heap.size v (setS (lists ss)) ∧ Below w.heap.size w w' := by
  go_enter Tryz.func61, Tryz.ntmps61
  go_wp2
  go_loopw [3, 4] (fun v i wr => ∃ (k : Nat) (ls : List (List UInt8)), k ≤ ss.length ∧ i = .int .i64 (k : Int) ∧ Hid (ls = setS (lists (ss.take k))) ∧ Hid (OwnS wr w.heap.size v ls) ∧ ls.length ≤ k ∧ Below w.heap.size w wr) (fun _ i _ => ss.length - (intOf i).toNat)
  case atStart => exact ⟨0, [], Nat.zero_le _, rfl, rfl, OwnS.nil _ _, by simp, Below.refl _ _⟩
  case round =>
    obtain ⟨k, ls, hk, rfl, hls, hown, hlen, hb⟩ := hrel
    by_cases hlt : k < ss.length
    · obtain ⟨A1, cap1, rfl, hls2, _, hnil2⟩ := hown.out.strs
      obtain ⟨_, hroom, hmax, hnil, haddr⟩ := hown.out.room
      obtain ⟨g, off, rfl, hg, hc⟩ := (hs.below hb).at_ hlt
      have hx : Hid (setS (lists (ss.take (k + 1))) = ins ss[k].data.toList ls) := by
        show _ = _
        rw [lists_take_succ ss k hlt, setS_snoc, hls.out]
      generalize hsk : ss[k] = s at *
      clear hs hls
      go_wp2
      go_loopw [5] (fun jv wi => ∃ j : Nat, j ≤ ls.length ∧ jv = .int .i64 (j : Int) ∧ Hid (∀ t (h : t < ls.length), t < j → ls[t] < s.data.toList) ∧ Hid (OwnS wi w.heap.size (.slice A1 ls.length cap1) ls) ∧ Below w.heap.size w wi ∧ wi.cell? ⟨g, off + k, none⟩ = some (.string s)) (fun jv _ => ls.length - (intOf jv).toNat)
      case atStart => exact ⟨0, Nat.zero_le _, rfl, fun t _ h => absurd h (by omega), hown.out, hb, hc⟩
      case round =>
        obtain ⟨j, hj, rfl, hless, hown2, hb2, hc2⟩ := hrel
        by_cases hC : (∃ hjl : j < ls.length, ¬ ls[j] < s.data.toList ∧ ls[j] ≠ s.data.toList) ∨ j = ls.length
        · have hfin : Hid (setS (lists (ss.take (k + 1))) = ls.take j ++ s.data.toList :: ls.drop j) := by
            show _ = _
            rw [hx.out, ins_new hj hless.out]
            intro h
            rcases hC with ⟨_, h1, h2⟩ | h1
            · exact ⟨h1, h2⟩
            · omega
          clear hless hx hown
          have hBB : Hid (Below w.heap.size w wr ∧ w.heap.size ≤ wr.heap.size) := ⟨hb2, hb2.size⟩
          rcases A1 with _ | ⟨b, o, sp⟩
          · have hl0 : ls = [] := hnil2 rfl
            subst hl0
            obtain rfl : cap1 = 0 := hnil rfl
            obtain rfl : j = 0 := by simpa using hj
            have c1 : decide (((0 : Nat) : Int) < ((([] : List (List UInt8)).length : Nat) : Int)) = false := by simp
            have hl2 : ([] : List (List UInt8)).length + [s.data.toList].length ≤ 1000000 := by simp
            have hl3 : [s.data.toList].length + ([] : List (List UInt8)).length ≤ 1000000 := by simp
            clear hC hj hown2 hnil2 hnil haddr hroom hmax hls2
            go_wp2
            go_quiet (fail)
            go_wp2
            go_quiet (fail)
            go_wp2_with (at_builtin; refine wpList_append_strs rfl _ _ rfl wr.heap.size _ [] [] rfl ?_ none 0 0 rfl rfl (fun _ => rfl) ?_ ?_ (by decide) ?_)
            · exact own_made _ _ (Nat.le_refl _)
            · exact fun h => absurd h (by simp [toBs])
            · simp
            intro v1 w1 ho1 hg1
            have hB1 := hid_below (base_made wr _) (own_made _ _ (Nat.le_refl _)) hg1
            have hc1 := hB1.out.1 _ _ hc2 (by have := hBB.out.2; omega)
            have HO1 := Lib.hid ho1
            clear ho1 hg1
            go_wp2_with (at_builtin; refine wpList_append_strs rfl _ _ rfl wr.heap.size _ [] [s.data.toList] rfl ?_ (some ⟨w1.heap.size, 0, none⟩) 1 1 rfl rfl (fun e => by cases e) ?_ ?_ hl2 ?_)
            · exact World.ownsRow.alloc HO1.out _
            · exact strs_one w1 s
            · have := hB1.out.2.size; simp; omega
            intro v2 w2 ho2 hg2
            have hB2 := hid_below (hB1.out.2.alloc hB1.out.2.size _) (show OwnS _ _ v1 [] from World.ownsRow.alloc HO1.out _) hg2
            have HO2 := Lib.hid ho2
            clear ho2 hg2 hB1 hc1 HO1
            go_wp2_with (at_builtin; refine wpList_append_strs rfl _ _ rfl wr.heap.size _ [s.data.toList] [] rfl ?_ none 0 0 rfl rfl (fun _ => rfl) ?_ ?_ hl3 ?_)
            · exact HO2.out
            · exact fun h => absurd h (by simp [toBs])
            · exact hB2.out.2.size
            intro v3 w3 ho3 hg3
            have hB3 := hid_below hB2.out.2 HO2.out hg3
            have HO3 := Lib.hid ho3
            clear ho3 hg3 hB2 HO2
            go_wp2
            go_roundw
            case rel =>
              refine ⟨k + 1, [s.data.toList], by omega, by go_num, hfin.out.symm, HO3.out.more hBB.out.2, by simp, hBB.out.1.trans (hB3.out.2.mono hBB.out.2)⟩
            case measure => simp [intOf]; omega
          · obtain ⟨rfl, rfl⟩ := haddr _ rfl
            have hstr : Hid (Strs wr wr.heap.size (some ⟨b, 0, none⟩) (toBs ls)) := by
              obtain ⟨A', cap', e, hs1, _, _⟩ := hown2.out.strs
              cases e
              exact hs1
            have hnj : j = (ls.take j).length := by rw [List.length_take]; omega
            have hsn : some (⟨b, 0, none⟩ : Addr) = none → cap1 = 0 := fun e => by cases e
            have hl1 : ([] : List (List UInt8)).length + (ls.take j).length ≤ 1000000 := by rw [← hnj]; simp; omega
            have hl2 : (ls.take j).length + [s.data.toList].length ≤ 1000000 := by rw [← hnj]; simp; omega
            have hl3 : (ls.take j ++ [s.data.toList]).length + (ls.drop j).length ≤ 1000000 := by rw [List.length_append, ← hnj, List.length_drop]; simp; omega
            clear hnil hnil2 hls2
            have Hnd : Hid (ls.length - j = (ls.drop j).length) := by show _ = _; rw [List.length_drop]
            have HD : Hid (∀ W, Below wr.heap.size wr W → Strs W W.heap.size (some ⟨b, j, none⟩) (toBs (ls.drop j))) := fun W hW => by
              have := (hstr.out.on hW).drop j
              rw [Nat.zero_add] at this
              exact this
            have Hnj := Lib.hid hnj
            have Hsn := Lib.hid hsn
            clear hnj hsn
            rcases hC with hC | hC
            case' inl =>
              obtain ⟨hjl, hxl, hxe⟩ := hC
              obtain ⟨b', o', e, hbl, hcj⟩ := hstr.out.at_ (k := j) (by rw [toBs_len]; exact hjl)
              cases e
              rw [toBs_get, Nat.zero_add] at hcj
              have hq : Op.bytesLess (toB ls[j]).toList s.toList = false := by rw [less_eq]; simpa using hxl
              have hq2 : ((toB ls[j]).toList == s.toList) = false := by rw [beq_eq]; simpa using hxe
              have c1 : decide ((j : Int) < (ls.length : Int)) = true := by simp; omega
              generalize toB ls[j] = t at *
              clear hxl hxe
            case' inr =>
              have c1 : decide ((j : Int) < (ls.length : Int)) = false := by simp; omega
              have hjl : ¬ j < ls.length := by omega
              clear hC
            all_goals
              go_wp2
              go_quiet (fail)
              go_wp2
              go_quiet (fail)
              go_wp2_with (at_builtin; refine wpList_append_strs rfl _ _ rfl wr.heap.size _ [] (ls.take j) rfl ?_ (some ⟨b, 0, none⟩) cap1 j rfl Hnj.out Hsn.out ?_ ?_ hl1 ?_)
              · exact own_made _ _ (Nat.le_refl _)
              · exact (hstr.out.on (base_made wr _)).take j
              · simp
              intro v1 w1 ho1 hg1
              have hB1 := hid_below (base_made wr _) (own_made _ _ (Nat.le_refl _)) hg1
              have hc1 := hB1.out.1 _ _ hc2 (by have := hBB.out.2; omega)
              have HO1 := Lib.hid ho1
              clear ho1 hg1
              go_wp2_with (at_builtin; refine wpList_append_strs rfl _ _ rfl wr.heap.size _ (ls.take j) [s.data.toList] rfl ?_ (some ⟨w1.heap.size, 0, none⟩) 1 1 rfl rfl (fun e => by cases e) ?_ ?_ hl2 ?_)
              · exact World.ownsRow.alloc HO1.out _
              · exact strs_one w1 s
              · have := hB1.out.2.size; simp; omega
              intro v2 w2 ho2 hg2
              have hB2 := hid_below (hB1.out.2.alloc hB1.out.2.size _) (show OwnS _ _ v1 (ls.take j) from World.ownsRow.alloc HO1.out _) hg2
              have HO2 := Lib.hid ho2
              clear ho2 hg2 hB1 hc1 HO1
              go_wp2_with (at_builtin; refine wpList_append_strs rfl _ _ rfl wr.heap.size _ (ls.take j ++ [s.data.toList]) (ls.drop j) rfl ?_ _ _ _ rfl ?_ ?_ ?_ ?_ hl3 ?_)
              all_goals first
                | exact HO2.out
                | exact hB2.out.2.size
                | exact Hnd.out
                | exact some_none _ _
                | exact HD.out _ hB2.out.2
                | exact fun h => absurd h (by rw [toBs_len, List.length_drop]; omega)
                | skip
              all_goals
                intro v3 w3 ho3 hg3
                have hB3 := hid_below hB2.out.2 HO2.out hg3
                have HO3 := Lib.hid ho3
                clear ho3 hg3 hB2 HO2
                go_wp2
                go_roundw
                case rel =>
                  refine ⟨k + 1, ls.take j ++ s.data.toList :: ls.drop j, by omega, by go_num, hfin.out.symm, ?_, ?_, hBB.out.1.trans (hB3.out.2.mono hBB.out.2)⟩
                  · have := HO3.out.more hBB.out.2
                    first
                      | exact this
                      | (rw [List.append_assoc] at this; exact this)
                  · rw [List.length_append, List.length_cons, List.length_drop, List.length_take]; omega
                case measure => simp [intOf]; omega
        by_cases hjl : j < ls.length
        · have hno : Hid (¬ (∃ hjl : j < ls.length, ¬ ls[j] < s.data.toList ∧ ls[j] ≠ s.data.toList)) := fun h => hC (.inl h)
          obtain ⟨A', cap', e, hs1, _, _⟩ := hown2.out.strs
          cases e
          obtain ⟨b, o, rfl, hbl, hcj⟩ := hs1.at_ (k := j) (by rw [toBs_len]; exact hjl)
          rw [toBs_get] at hcj
          have c1 : decide ((j : Int) < (ls.length : Int)) = true := by simp; omega
          by_cases hxl : ls[j] < s.data.toList
          · have hq : Op.bytesLess (toB ls[j]).toList s.toList = true := by rw [less_eq]; simpa using hxl
            have hless2 : Hid (∀ t (h : t < ls.length), t < j + 1 → ls[t] < s.data.toList) := by
              intro t ht htj
              by_cases h : t = j
              · subst h; exact hxl
              · exact hless.out t ht (by omega)
            generalize toB ls[j] = t at *
            clear hless hxl hs1
            go_wp2
            go_quiet (fail)
            go_wp2
            go_roundw
            case rel => exact ⟨j + 1, by omega, by go_num, hless2, hown2, below_drewN hb2 _, hc2⟩
            case measure => simp [intOf]; omega
          · have hq : Op.bytesLess (toB ls[j]).toList s.toList = false := by rw [less_eq]; simpa using hxl
            by_cases hxe : ls[j] = s.data.toList
            · have hq2 : ((toB ls[j]).toList == s.toList) = true := by rw [beq_eq]; simpa using hxe
              have hfin : Hid (ls = setS (lists (ss.take (k + 1)))) := by
                show _ = _
                rw [hx.out, ins_found hjl hless.out hxe]
              generalize toB ls[j] = t at *
              clear hless hxl hs1 hxe hx
              go_wp2
              go_quiet (fail)
              go_wp2
              go_quiet (fail)
              go_wp2
              go_roundw
              case rel => exact ⟨k + 1, ls, by omega, by go_num, hfin, hown2, by omega, below_drewN hb2 _⟩
              case measure => simp [intOf]; omega
            · exact absurd ⟨hjl, hxl, hxe⟩ hno.out
        · exact absurd (.inr (by omega)) hC
    · have hk2 : k = ss.length := by omega
      subst hk2
      have hfin : Hid (ls = setS (lists ss)) := by
        show _ = _
        rw [hls.out, List.take_length]
      clear hls
      go_wp2
      go_ret
      rw [← hfin.out]
      exact ⟨_, rfl, hown.out, hb⟩
end Go.Proofs.YtoajckhfnadhjaaGreatDoor
namespace Go.Proofs.YtoajckhfnadhjaaGreatDoor
open Go.RowKit
set_option linter.unusedVariables false


set_option maxRecDepth 100000 in
theorem same_q (A A2 : Option Addr) (ss tt : List ByteArray) (cap cap2 : Nat) (w : World) (hs : Strs w w.heap.size A ss) (ht : Strs w w.heap.size A2 tt)
    (hn : ss.length ≤ 140737488351232) (hn2 : tt.length ≤ 140737488351232) :
    Calls Tryz.prog 35 #[.slice A ss.length cap, .slice A2 tt.length cap2] w fun e w' => e = .returned (.bool (decide (ss = tt))) ∧ ∃ q, w' = w.drewN q := by
  by_cases hl : ss.length = tt.length
  · have Hl := Lib.hid hl
    have hb1 : (((ss.length : Int)) != (tt.length : Int)) = false := by simp; omega
    clear hl
    go_enter Tryz.func35, Tryz.ntmps35
    go_wp2
    go_loopw [5] (fun i wr => ∃ k : Nat, k ≤ ss.length ∧ i = .int .i64 (k : Int) ∧ Hid (∀ j (hj : j < ss.length) (hj2 : j < tt.length), j < k → ss[j] = tt[j]) ∧ ∃ q, wr = w.drewN q) (fun i _ => ss.length - (intOf i).toNat)
    case atStart => exact ⟨0, Nat.zero_le _, rfl, fun j _ _ h => absurd h (by omega), 0, rfl⟩
    case round =>
      obtain ⟨k, hk, rfl, hall, q, rfl⟩ := hrel
      by_cases hlt : k < ss.length
      · have hlt2 : k < tt.length := by have := Hl.out; omega
        obtain ⟨g, off, rfl, hg, hc⟩ := hs.at_ hlt
        obtain ⟨g2, off2, rfl, hg2, hc2⟩ := ht.at_ hlt2
        by_cases he : ss[k] = tt[k]
        · have hyes : Hid (∀ j (hj : j < ss.length) (hj2 : j < tt.length), j < k + 1 → ss[j] = tt[j]) := by
            intro j hj hj2 hjk
            by_cases hjk2 : j = k
            · subst hjk2; exact he
            · exact hall.out j hj hj2 (by omega)
          rw [← he] at hc2
          generalize ss[k] = s at *
          clear he hall hs ht
          go_wp2
          go_quiet (fail)
          go_wp2
          go_roundw
          case rel => exact ⟨k + 1, by omega, by go_num, hyes, _, rfl⟩
          case measure => simp [intOf]; omega
        · have hno : Hid (decide (ss = tt) = false) := by
            show _ = _
            simp only [decide_eq_false_iff_not]
            intro h
            subst h
            exact he rfl
          have hne : (ss[k].toList == tt[k].toList) = false := by
            rw [beq_eq_false_iff_ne]
            intro h
            exact he (by apply ByteArray.ext; apply Array.ext'; simpa only [toList_eq] using h)
          generalize ss[k] = s at *
          generalize tt[k] = t at *
          clear he hall hs ht
          go_wp2
          go_quiet (fail)
          go_wp2
          go_ret
          rw [hno.out]
          exact ⟨rfl, _, World.drewN_drewN _ _ _⟩
      · have hk2 : k = ss.length := by omega
        subst hk2
        have hyes : Hid (decide (ss = tt) = true) := by
          show _ = _
          rw [decide_eq_true_eq]
          exact List.ext_getElem Hl.out fun j h1 h2 => hall.out j h1 h2 h1
        clear hall
        go_wp2
        go_ret
        rw [hyes.out]
        exact ⟨rfl, q, rfl⟩
  · have hno : Hid (decide (ss = tt) = false) := by
      show _ = _
      simp only [decide_eq_false_iff_not]
      intro h
      subst h
      exact hl rfl
    have hb1 : (((ss.length : Int)) != (tt.length : Int)) = true := by simp; omega
    go_enter Tryz.func35, Tryz.ntmps35
    go_wp2
    go_ret
    rw [hno.out]
    exact ⟨rfl, 0, rfl⟩
end Go.Proofs.YtoajckhfnadhjaaGreatDoor
