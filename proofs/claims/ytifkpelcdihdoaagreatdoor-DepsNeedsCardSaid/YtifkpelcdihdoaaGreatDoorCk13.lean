/- The reference's Has, Set, Keep. The reference's Same: are two lists of texts the same? The calls of layer 2 and of its reference, one way: rows in, rows out; the statements' awake. The reference of layer 14: Names, Within, All. Append to a row of records: where the new row lies; a row beside it stays. -/
import Derived.Test.YtifkpelcdihdoaaGreatDoorShelf
import Derived.BigQuiet
import Derived.BigRegion
import Derived.Deep.QuietTactic
import Derived.Handy
import Derived.Test.YtifkpelcdihdoaaGreatDoorProg
import Derived.WalkKit
import Derived.WalkSpells
import Derived.Lib.Hide
import Derived.Shelf.Strings.BuilderK
import Derived.Lib.AtoiAllCases
import Derived.Lib.ItoaMem
import Derived.Deep.RegionHeld3
import Derived.Deep.CutRange
import Derived.Lib.AppendIntMem
import Derived.Deep.RegionWith
import Derived.Lib.QuietBelow
import Derived.Deep.MidRow
import Derived.Maps.AppendAt
import Derived.Test.YtifkpelcdihdoaaGreatDoorCk12
namespace Go.Proofs.YtifkpelcdihdoaaGreatDoor
open Go.RowKit
set_option linter.unusedVariables false

set_option maxRecDepth 100000 in
theorem refhas_any (A : Option Addr) (ss : List ByteArray) (cap : Nat) (s : ByteArray) (w : World) (hs : Strs w w.heap.size A ss) (hn : ss.length ≤ 1000000) :
    Calls Tryz.prog 11 #[.slice A ss.length cap, .string s] w fun e w' => e = .returned (.bool (decide (s.data.toList ∈ lists ss))) ∧ w = w' := by
  go_enter Tryz.func11, Tryz.ntmps11
  go_wp2
  go_loop [5] (fun i => ∃ k : Nat, k ≤ ss.length ∧ i = .int .i64 (k : Int) ∧ Hid (∀ j (hj : j < ss.length), j < k → ss[j] ≠ s)) (fun i => ss.length - (intOf i).toNat)
  case atStart => exact ⟨0, Nat.zero_le _, rfl, fun j _ h => absurd h (by omega)⟩
  case round =>
    obtain ⟨k, hk, rfl, hall⟩ := hrel
    by_cases hlt : k < ss.length
    · obtain ⟨g, off, rfl, hg, hc⟩ := hs.at_ hlt
      by_cases he : ss[k] = s
      · have hyes : Hid (decide (s.data.toList ∈ lists ss) = true) := by
          show _ = _
          rw [decide_eq_true_eq, lists, List.mem_map]
          exact ⟨ss[k], List.getElem_mem _, by rw [he]⟩
        rw [he] at hc
        have hq : (s.toList == s.toList) = true := by simp
        clear hall he hs
        go_wp2
        go_ret
        rw [hyes.out]
        exact ⟨rfl, rfl⟩
      · have hall2 : Hid (∀ j (hj : j < ss.length), j < k + 1 → ss[j] ≠ s) := by
          intro j hj hjk
          by_cases h : j = k
          · subst h; exact he
          · exact hall.out j hj (by omega)
        have hne : (ss[k].toList == s.toList) = false := by
          rw [beq_eq_false_iff_ne]
          intro h
          rw [toList_eq, toList_eq] at h
          exact he (bytes_inj h)
        generalize ss[k] = t at *
        clear hall he hs
        go_wp2
        go_round
        case rel => exact ⟨k + 1, by omega, by go_num, hall2⟩
        case measure => simp [intOf]; omega
    · have hk2 : k = ss.length := by omega
      subst hk2
      have hno : Hid (decide (s.data.toList ∈ lists ss) = false) := by
        show _ = _
        rw [decide_eq_false_iff_not, lists, List.mem_map]
        rintro ⟨t, ht, e⟩
        obtain ⟨j, hj, rfl⟩ := List.getElem_of_mem ht
        exact hall.out j hj hj (bytes_inj e)
      clear hall
      go_wp2
      go_ret
      rw [hno.out]
      exact ⟨rfl, rfl⟩
theorem OwnS.room {w : World} {B n cap : Nat} {A : Option Addr} {ls : List (List UInt8)} (h : OwnS w B (.slice A n cap) ls) : n = ls.length ∧ n ≤ cap ∧ cap ≤ maxLen ∧ (A = none → cap = 0) ∧ (∀ a, A = some a → a.off = 0 ∧ a.spot = none) := by
  rcases h.2 with ⟨e, h0⟩ | ⟨g, cap', cur, e, hb, hg, hn, hm, hsz, ht⟩
  · cases e
    exact ⟨h0.symm, Nat.le_refl _, by simp, (fun _ => rfl), (fun a e => by cases e)⟩
  · cases e
    exact ⟨rfl, hn, hm, (fun e => by cases e), (fun a e => by cases e; exact ⟨rfl, rfl⟩)⟩
theorem lists_take_succ (ss : List ByteArray) (k : Nat) (h : k < ss.length) : lists (ss.take (k + 1)) = lists (ss.take k) ++ [ss[k].data.toList] := by
  rw [List.take_succ_eq_append_getElem h, lists, List.map_append]; rfl
theorem less_eq (l : List UInt8) (s : ByteArray) : Op.bytesLess (toB l).toList s.toList = decide (l < s.data.toList) := by
  rw [bytesLess_eq, toList_eq, toList_eq, of_toB]
theorem beq_eq (l : List UInt8) (s : ByteArray) : ((toB l).toList == s.toList) = decide (l = s.data.toList) := by
  rw [toList_eq, toList_eq, of_toB, Bool.eq_iff_iff, beq_iff_eq, decide_eq_true_eq]
theorem toBs_get (ls : List (List UInt8)) (j : Nat) (h : j < (toBs ls).length) : (toBs ls)[j] = toB (ls[j]'(by rw [toBs_len] at h; exact h)) := by simp [toBs]

theorem some_none (x : Addr) (n : Nat) (h : some x = none) : n = 0 := by cases h
theorem base_made (wr : World) (q : Nat) : Below wr.heap.size wr ((wr.drewN q).alloc (.cells #[] 9)) := (below_drewN (Below.refl _ wr) q).alloc (Nat.le_refl _) _
/-- What an append to a row that the call made leaves, of what lay there. -/
theorem hid_below {wr w w' : World} {v : Value} {ls : List (List UInt8)} (hb : Below wr.heap.size wr w) (ho : OwnS w wr.heap.size v ls) (hg : w.grownBy w' v.ownBlock) :
    Hid ((∀ g o {u}, wr.cell? ⟨g, o, none⟩ = some u → g < wr.heap.size → w'.cell? ⟨g, o, none⟩ = some u) ∧ Below wr.heap.size wr w') := by
  have h := below_append hb ho hg (Nat.le_refl _)
  exact ⟨fun g o u hc hl => (h.cell (p := ⟨g, o, none⟩) hl).trans hc, h⟩

set_option maxHeartbeats 1000000 in
set_option maxRecDepth 100000 in
theorem refset_any (A : Option Addr) (ss : List ByteArray) (cap : Nat) (w : World) (hs : Strs w w.heap.size A ss) (hn : ss.length ≤ 100000) :
    Calls Tryz.prog 14 #[.slice A ss.length cap] w fun e w' => ∃ v, e = .returned v ∧ OwnS w' w.heap.size v (setS (lists ss)) ∧ Below w.heap.size w w' := by
  go_enter Tryz.func14, Tryz.ntmps14
  go_wp2
  go_loopw [3, 4] (fun v i wr => ∃ (k : Nat) (ls : List (List UInt8)), k ≤ ss.length ∧ i = .int .i64 (k : Int) ∧ Hid (ls = setS (lists (ss.take k))) ∧ Hid (OwnS wr w.heap.size v ls) ∧ ls.length ≤ k ∧ Below w.heap.size w wr) (fun _ i _ => ss.length - (intOf i).toNat)
  case atStart => exact ⟨0, [], Nat.zero_le _, rfl, rfl, OwnS.nil _ _, by simp, Below.refl _ _⟩
  case round =>
    obtain ⟨k, ls, hk, rfl, hls, hown, hlen, hb⟩ := hrel
    by_cases hlt : k < ss.length
    · obtain ⟨A1, cap1, rfl, hls2, _, hnil2⟩ := hown.out.strs
      obtain ⟨_, hroom, hmax, hnil, haddr⟩ := hown.out.room
      obtain ⟨g, off, rfl, hg, hc⟩ := (hs.below hb).at_ hlt
      have hx : Hid (setS (lists (ss.take (k + 1))) = ins ss[k].data.toList ls) := by
        show _ = _
        rw [lists_take_succ ss k hlt, setS_snoc, hls.out]
      generalize hsk : ss[k] = s at *
      clear hs hls
      go_wp2
      go_loopw [5] (fun jv wi => ∃ j : Nat, j ≤ ls.length ∧ jv = .int .i64 (j : Int) ∧ Hid (∀ t (h : t < ls.length), t < j → ls[t] < s.data.toList) ∧ Hid (OwnS wi w.heap.size (.slice A1 ls.length cap1) ls) ∧ Below w.heap.size w wi ∧ wi.cell? ⟨g, off + k, none⟩ = some (.string s)) (fun jv _ => ls.length - (intOf jv).toNat)
      case atStart => exact ⟨0, Nat.zero_le _, rfl, fun t _ h => absurd h (by omega), hown.out, hb, hc⟩
      case round =>
        obtain ⟨j, hj, rfl, hless, hown2, hb2, hc2⟩ := hrel
        by_cases hC : (∃ hjl : j < ls.length, ¬ ls[j] < s.data.toList ∧ ls[j] ≠ s.data.toList) ∨ j = ls.length
        · have hfin : Hid (setS (lists (ss.take (k + 1))) = ls.take j ++ s.data.toList :: ls.drop j) := by
            show _ = _
            rw [hx.out, ins_new hj hless.out]
            intro h
            rcases hC with ⟨_, h1, h2⟩ | h1
            · exact ⟨h1, h2⟩
            · omega
          clear hless hx hown
          have hBB : Hid (Below w.heap.size w wr ∧ w.heap.size ≤ wr.heap.size) := ⟨hb2, hb2.size⟩
          rcases A1 with _ | ⟨b, o, sp⟩
          · have hl0 : ls = [] := hnil2 rfl
            subst hl0
            obtain rfl : cap1 = 0 := hnil rfl
            obtain rfl : j = 0 := by simpa using hj
            have c1 : decide (((0 : Nat) : Int) < ((([] : List (List UInt8)).length : Nat) : Int)) = false := by simp
            have hl2 : ([] : List (List UInt8)).length + [s.data.toList].length ≤ 1000000 := by simp
            have hl3 : [s.data.toList].length + ([] : List (List UInt8)).length ≤ 1000000 := by simp
            clear hC hj hown2 hnil2 hnil haddr hroom hmax hls2
            go_wp2
            go_quiet (fail)
            go_wp2
            go_quiet (fail)
            go_wp2_with (at_builtin; refine wpList_append_strs rfl _ _ rfl wr.heap.size _ [] [] rfl ?_ none 0 0 rfl rfl (fun _ => rfl) ?_ ?_ (by decide) ?_)
            · exact own_made _ _ (Nat.le_refl _)
            · exact fun h => absurd h (by simp [toBs])
            · simp
            intro v1 w1 ho1 hg1
            have hB1 := hid_below (base_made wr _) (own_made _ _ (Nat.le_refl _)) hg1
            have hc1 := hB1.out.1 _ _ hc2 (by have := hBB.out.2; omega)
            have HO1 := Lib.hid ho1
            clear ho1 hg1
            go_wp2_with (at_builtin; refine wpList_append_strs rfl _ _ rfl wr.heap.size _ [] [s.data.toList] rfl ?_ (some ⟨w1.heap.size, 0, none⟩) 1 1 rfl rfl (fun e => by cases e) ?_ ?_ hl2 ?_)
            · exact World.ownsRow.alloc HO1.out _
            · exact strs_one w1 s
            · have := hB1.out.2.size; simp; omega
            intro v2 w2 ho2 hg2
            have hB2 := hid_below (hB1.out.2.alloc hB1.out.2.size _) (show OwnS _ _ v1 [] from World.ownsRow.alloc HO1.out _) hg2
            have HO2 := Lib.hid ho2
            clear ho2 hg2 hB1 hc1 HO1
            go_wp2_with (at_builtin; refine wpList_append_strs rfl _ _ rfl wr.heap.size _ [s.data.toList] [] rfl ?_ none 0 0 rfl rfl (fun _ => rfl) ?_ ?_ hl3 ?_)
            · exact HO2.out
            · exact fun h => absurd h (by simp [toBs])
            · exact hB2.out.2.size
            intro v3 w3 ho3 hg3
            have hB3 := hid_below hB2.out.2 HO2.out hg3
            have HO3 := Lib.hid ho3
            clear ho3 hg3 hB2 HO2
            go_wp2
            go_roundw
            case rel =>
              refine ⟨k + 1, [s.data.toList], by omega, by go_num, hfin.out.symm, HO3.out.more hBB.out.2, by simp, hBB.out.1.trans (hB3.out.2.mono hBB.out.2)⟩
            case measure => simp [intOf]; omega
          · obtain ⟨rfl, rfl⟩ := haddr _ rfl
            have hstr : Hid (Strs wr wr.heap.size (some ⟨b, 0, none⟩) (toBs ls)) := by
              obtain ⟨A', cap', e, hs1, _, _⟩ := hown2.out.strs
              cases e
              exact hs1
            have hnj : j = (ls.take j).length := by rw [List.length_take]; omega
            have hsn : some (⟨b, 0, none⟩ : Addr) = none → cap1 = 0 := fun e => by cases e
            have hl1 : ([] : List (List UInt8)).length + (ls.take j).length ≤ 1000000 := by rw [← hnj]; simp; omega
            have hl2 : (ls.take j).length + [s.data.toList].length ≤ 1000000 := by rw [← hnj]; simp; omega
            have hl3 : (ls.take j ++ [s.data.toList]).length + (ls.drop j).length ≤ 1000000 := by rw [List.length_append, ← hnj, List.length_drop]; simp; omega
            clear hnil hnil2 hls2
            have Hnd : Hid (ls.length - j = (ls.drop j).length) := by show _ = _; rw [List.length_drop]
            have HD : Hid (∀ W, Below wr.heap.size wr W → Strs W W.heap.size (some ⟨b, j, none⟩) (toBs (ls.drop j))) := fun W hW => by
              have := (hstr.out.on hW).drop j
              rw [Nat.zero_add] at this
              exact this
            have Hnj := Lib.hid hnj
            have Hsn := Lib.hid hsn
            clear hnj hsn
            rcases hC with hC | hC
            case' inl =>
              obtain ⟨hjl, hxl, hxe⟩ := hC
              obtain ⟨b', o', e, hbl, hcj⟩ := hstr.out.at_ (k := j) (by rw [toBs_len]; exact hjl)
              cases e
              rw [toBs_get, Nat.zero_add] at hcj
              have hq : Op.bytesLess (toB ls[j]).toList s.toList = false := by rw [less_eq]; simpa using hxl
              have hq2 : ((toB ls[j]).toList == s.toList) = false := by rw [beq_eq]; simpa using hxe
              have c1 : decide ((j : Int) < (ls.length : Int)) = true := by simp; omega
              generalize toB ls[j] = t at *
              clear hxl hxe
            case' inr =>
              have c1 : decide ((j : Int) < (ls.length : Int)) = false := by simp; omega
              have hjl : ¬ j < ls.length := by omega
              clear hC
            all_goals
              go_wp2
              go_quiet (fail)
              go_wp2
              go_quiet (fail)
              go_wp2_with (at_builtin; refine wpList_append_strs rfl _ _ rfl wr.heap.size _ [] (ls.take j) rfl ?_ (some ⟨b, 0, none⟩) cap1 j rfl Hnj.out Hsn.out ?_ ?_ hl1 ?_)
              · exact own_made _ _ (Nat.le_refl _)
              · exact (hstr.out.on (base_made wr _)).take j
              · simp
              intro v1 w1 ho1 hg1
              have hB1 := hid_below (base_made wr _) (own_made _ _ (Nat.le_refl _)) hg1
              have hc1 := hB1.out.1 _ _ hc2 (by have := hBB.out.2; omega)
              have HO1 := Lib.hid ho1
              clear ho1 hg1
              go_wp2_with (at_builtin; refine wpList_append_strs rfl _ _ rfl wr.heap.size _ (ls.take j) [s.data.toList] rfl ?_ (some ⟨w1.heap.size, 0, none⟩) 1 1 rfl rfl (fun e => by cases e) ?_ ?_ hl2 ?_)
              · exact World.ownsRow.alloc HO1.out _
              · exact strs_one w1 s
              · have := hB1.out.2.size; simp; omega
              intro v2 w2 ho2 hg2
              have hB2 := hid_below (hB1.out.2.alloc hB1.out.2.size _) (show OwnS _ _ v1 (ls.take j) from World.ownsRow.alloc HO1.out _) hg2
              have HO2 := Lib.hid ho2
              clear ho2 hg2 hB1 hc1 HO1
              go_wp2_with (at_builtin; refine wpList_append_strs rfl _ _ rfl wr.heap.size _ (ls.take j ++ [s.data.toList]) (ls.drop j) rfl ?_ _ _ _ rfl ?_ ?_ ?_ ?_ hl3 ?_)
              all_goals first
                | exact HO2.out
                | exact hB2.out.2.size
                | exact Hnd.out
                | exact some_none _ _
                | exact HD.out _ hB2.out.2
                | exact fun h => absurd h (by rw [toBs_len, List.length_drop]; omega)
                | skip
              all_goals
                intro v3 w3 ho3 hg3
                have hB3 := hid_below hB2.out.2 HO2.out hg3
                have HO3 := Lib.hid ho3
                clear ho3 hg3 hB2 HO2
                go_wp2
                go_roundw
                case rel =>
                  refine ⟨k + 1, ls.take j ++ s.data.toList :: ls.drop j, by omega, by go_num, hfin.out.symm, ?_, ?_, hBB.out.1.trans (hB3.out.2.mono hBB.out.2)⟩
                  · have := HO3.out.more hBB.out.2
                    first
                      | exact this
                      | (rw [List.append_assoc] at this; exact this)
                  · rw [List.length_append, List.length_cons, List.length_drop, List.length_take]; omega
                case measure => simp [intOf]; omega
        by_cases hjl : j < ls.length
        · have hno : Hid (¬ (∃ hjl : j < ls.length, ¬ ls[j] < s.data.toList ∧ ls[j] ≠ s.data.toList)) := fun h => hC (.inl h)
          obtain ⟨A', cap', e, hs1, _, _⟩ := hown2.out.strs
          cases e
          obtain ⟨b, o, rfl, hbl, hcj⟩ := hs1.at_ (k := j) (by rw [toBs_len]; exact hjl)
          rw [toBs_get] at hcj
          have c1 : decide ((j : Int) < (ls.length : Int)) = true := by simp; omega
          by_cases hxl : ls[j] < s.data.toList
          · have hq : Op.bytesLess (toB ls[j]).toList s.toList = true := by rw [less_eq]; simpa using hxl
            have hless2 : Hid (∀ t (h : t < ls.length), t < j + 1 → ls[t] < s.data.toList) := by
              intro t ht htj
              by_cases h : t = j
              · subst h; exact hxl
              · exact hless.out t ht (by omega)
            generalize toB ls[j] = t at *
            clear hless hxl hs1
            go_wp2
            go_quiet (fail)
            go_wp2
            go_roundw
            case rel => exact ⟨j + 1, by omega, by go_num, hless2, hown2, below_drewN hb2 _, hc2⟩
            case measure => simp [intOf]; omega
          · have hq : Op.bytesLess (toB ls[j]).toList s.toList = false := by rw [less_eq]; simpa using hxl
            by_cases hxe : ls[j] = s.data.toList
            · have hq2 : ((toB ls[j]).toList == s.toList) = true := by rw [beq_eq]; simpa using hxe
              have hfin : Hid (ls = setS (lists (ss.take (k + 1)))) := by
                show _ = _
                rw [hx.out, ins_found hjl hless.out hxe]
              generalize toB ls[j] = t at *
              clear hless hxl hs1 hxe hx
              go_wp2
              go_quiet (fail)
              go_wp2
              go_quiet (fail)
              go_wp2
              go_roundw
              case rel => exact ⟨k + 1, ls, by omega, by go_num, hfin, hown2, by omega, below_drewN hb2 _⟩
              case measure => simp [intOf]; omega
            · exact absurd ⟨hjl, hxl, hxe⟩ hno.out
        · exact absurd (.inr (by omega)) hC
    · have hk2 : k = ss.length := by omega
      subst hk2
      have hfin : Hid (ls = setS (lists ss)) := by
        show _ = _
        rw [hls.out, List.take_length]
      clear hls
      go_wp2
      go_ret
      rw [← hfin.out]
      exact ⟨_, rfl, hown.out, hb⟩
end Go.Proofs.YtifkpelcdihdoaaGreatDoor
namespace Go.Proofs.YtifkpelcdihdoaaGreatDoor
open Go.RowKit
set_option linter.unusedVariables false


set_option maxRecDepth 100000 in
theorem same_q (A A2 : Option Addr) (ss tt : List ByteArray) (cap cap2 : Nat) (w : World) (hs : Strs w w.heap.size A ss) (ht : Strs w w.heap.size A2 tt)
    (hn : ss.length ≤ 140737488351232) (hn2 : tt.length ≤ 140737488351232) :
    Calls Tryz.prog 10 #[.slice A ss.length cap, .slice A2 tt.length cap2] w fun e w' => e = .returned (.bool (decide (ss = tt))) ∧ ∃ q, w' = w.drewN q := by
  by_cases hl : ss.length = tt.length
  · have Hl := Lib.hid hl
    have hb1 : (((ss.length : Int)) != (tt.length : Int)) = false := by simp; omega
    clear hl
    go_enter Tryz.func10, Tryz.ntmps10
    go_wp2
    go_loopw [5] (fun i wr => ∃ k : Nat, k ≤ ss.length ∧ i = .int .i64 (k : Int) ∧ Hid (∀ j (hj : j < ss.length) (hj2 : j < tt.length), j < k → ss[j] = tt[j]) ∧ ∃ q, wr = w.drewN q) (fun i _ => ss.length - (intOf i).toNat)
    case atStart => exact ⟨0, Nat.zero_le _, rfl, fun j _ _ h => absurd h (by omega), 0, rfl⟩
    case round =>
      obtain ⟨k, hk, rfl, hall, q, rfl⟩ := hrel
      by_cases hlt : k < ss.length
      · have hlt2 : k < tt.length := by have := Hl.out; omega
        obtain ⟨g, off, rfl, hg, hc⟩ := hs.at_ hlt
        obtain ⟨g2, off2, rfl, hg2, hc2⟩ := ht.at_ hlt2
        by_cases he : ss[k] = tt[k]
        · have hyes : Hid (∀ j (hj : j < ss.length) (hj2 : j < tt.length), j < k + 1 → ss[j] = tt[j]) := by
            intro j hj hj2 hjk
            by_cases hjk2 : j = k
            · subst hjk2; exact he
            · exact hall.out j hj hj2 (by omega)
          rw [← he] at hc2
          generalize ss[k] = s at *
          clear he hall hs ht
          go_wp2
          go_quiet (fail)
          go_wp2
          go_roundw
          case rel => exact ⟨k + 1, by omega, by go_num, hyes, _, rfl⟩
          case measure => simp [intOf]; omega
        · have hno : Hid (decide (ss = tt) = false) := by
            show _ = _
            simp only [decide_eq_false_iff_not]
            intro h
            subst h
            exact he rfl
          have hne : (ss[k].toList == tt[k].toList) = false := by
            rw [beq_eq_false_iff_ne]
            intro h
            exact he (by apply ByteArray.ext; apply Array.ext'; simpa only [toList_eq] using h)
          generalize ss[k] = s at *
          generalize tt[k] = t at *
          clear he hall hs ht
          go_wp2
          go_quiet (fail)
          go_wp2
          go_ret
          rw [hno.out]
          exact ⟨rfl, _, World.drewN_drewN _ _ _⟩
      · have hk2 : k = ss.length := by omega
        subst hk2
        have hyes : Hid (decide (ss = tt) = true) := by
          show _ = _
          rw [decide_eq_true_eq]
          exact List.ext_getElem Hl.out fun j h1 h2 => hall.out j h1 h2 h1
        clear hall
        go_wp2
        go_ret
        rw [hyes.out]
        exact ⟨rfl, q, rfl⟩
  · have hno : Hid (decide (ss = tt) = false) := by
      show _ = _
      simp only [decide_eq_false_iff_not]
      intro h
      subst h
      exact hl rfl
    have hb1 : (((ss.length : Int)) != (tt.length : Int)) = true := by simp; omega
    go_enter Tryz.func10, Tryz.ntmps10
    go_wp2
    go_ret
    rw [hno.out]
    exact ⟨rfl, 0, rfl⟩
theorem same_any (A A2 : Option Addr) (ss tt : List ByteArray) (cap cap2 : Nat) (w : World) (hs : Strs w w.heap.size A ss) (ht : Strs w w.heap.size A2 tt)
    (hn : ss.length ≤ 140737488351232) (hn2 : tt.length ≤ 140737488351232) :
    Calls Tryz.prog 10 #[.slice A ss.length cap, .slice A2 tt.length cap2] w fun e w' => e = .returned (.bool (decide (ss = tt))) ∧ Below w.heap.size w w' :=
  (same_q A A2 ss tt cap cap2 w hs ht hn hn2).mono fun e w' ⟨h1, q, h2⟩ => ⟨h1, by rw [h2]; exact below_drewN (Below.refl _ _) q⟩
end Go.Proofs.YtifkpelcdihdoaaGreatDoor
namespace Go.Proofs.YtifkpelcdihdoaaGreatDoor
open Go.RowKit
set_option linter.unusedVariables false

section
variable (A A2 : Option Addr) (la lc : List (List UInt8)) (cap cap2 : Nat) (w : World)
theorem refset_l (hs : Strs w w.heap.size A (toBs la)) (hn : la.length ≤ 100000) : Calls Tryz.prog 14 #[.slice A la.length cap] w (RowLeft w (setS la)) := by
  have h := refset_any A (toBs la) cap w hs (by rw [toBs_len]; omega)
  rw [toBs_len, lists_toBs] at h
  exact h.mono fun e w' h => own_row h
theorem same_l (hs : Strs w w.heap.size A (toBs la)) (ht : Strs w w.heap.size A2 (toBs lc)) (hn : la.length ≤ 100000) (hn2 : lc.length ≤ 100000) :
    Calls Tryz.prog 10 #[.slice A la.length cap, .slice A2 lc.length cap2] w fun e w' => e = .returned (.bool (decide (la = lc))) ∧ Below w.heap.size w w' := by
  have h := same_any A A2 (toBs la) (toBs lc) cap cap2 w hs ht (by rw [toBs_len]; omega) (by rw [toBs_len]; omega)
  rw [toBs_len, toBs_len, toBs_eq] at h
  exact h
theorem refhas_l (s : ByteArray) (hs : Strs w w.heap.size A (toBs la)) (hn : la.length ≤ 100000) :
    Calls Tryz.prog 11 #[.slice A la.length cap, .string s] w fun e w' => e = .returned (.bool (decide (s.data.toList ∈ la))) ∧ w = w' := by
  have h := refhas_any A (toBs la) cap s w hs (by rw [toBs_len]; omega)
  rw [toBs_len, lists_toBs] at h
  exact h

end

end Go.Proofs.YtifkpelcdihdoaaGreatDoor
namespace Go.Proofs.YtifkpelcdihdoaaGreatDoor
open Go.RowKit
set_option linter.unusedVariables false

set_option maxRecDepth 100000 in
theorem refwithin_any (A B : Option Addr) (la lb : List (List UInt8)) (c d : Nat) (w : World) (hs : Strs w w.heap.size A (toBs la)) (ht : Strs w w.heap.size B (toBs lb)) (hn : la.length ≤ 100000) (hm : lb.length ≤ 100000) :
    Calls Tryz.prog 8 #[.slice A la.length c, .slice B lb.length d] w fun e w' => e = .returned (.bool (withinD la lb)) ∧ w = w' := by
  have HT := Lib.hid ht
  have HS := Lib.hid hs
  clear ht hs
  go_enter Tryz.func8, Tryz.ntmps8
  go_wp2
  go_loop [5] (fun i => ∃ k : Nat, k ≤ la.length ∧ i = .int .i64 (k : Int) ∧ Hid (∀ j (hj : j < la.length), j < k → la[j] ∈ lb)) (fun i => la.length - (intOf i).toNat)
  case atStart => exact ⟨0, Nat.zero_le _, rfl, fun j _ h => absurd h (by omega)⟩
  case round =>
    obtain ⟨k, hk, rfl, hall⟩ := hrel
    by_cases hlt : k < la.length
    · obtain ⟨g, off, rfl, hg, hc⟩ := HS.out.at_ (k := k) (by rw [toBs_len]; exact hlt)
      have e1 : (toBs la)[k]'(by rw [toBs_len]; exact hlt) = toB la[k] := by simp [toBs]
      rw [e1] at hc
      have CH := Lib.hid (refhas_l B lb d w (toB la[k]) HT.out hm)
      rw [of_toB] at CH
      by_cases he : la[k] ∈ lb
      · have HN : Hid (∀ j (hj : j < la.length), j < k + 1 → la[j] ∈ lb) := fun j hj hjk => by
          by_cases e : j = k
          · subst e; exact he
          · exact hall.out j hj (by omega)
        rw [decide_eq_true he] at CH
        clear hall he e1
        generalize toB la[k] = s at *
        go_wp2_with fail
        refine CH.out.mono ?_
        rintro e w1 ⟨rfl, hw⟩
        subst hw
        go_wp2
        go_round
        case rel => exact ⟨k + 1, by omega, by go_num, HN.out⟩
        case measure => simp [intOf]; omega
      · have HF := Lib.hid (within_no hlt he)
        rw [decide_eq_false he] at CH
        clear hall he e1
        generalize toB la[k] = s at *
        go_wp2_with fail
        refine CH.out.mono ?_
        rintro e w1 ⟨rfl, hw⟩
        subst hw
        go_wp2
        go_ret
        rw [HF.out]
        exact ⟨rfl, rfl⟩
    · have HF := Lib.hid (within_yes (a := la) (b := lb) fun j hj => hall.out j hj (by omega))
      clear hall
      go_wp2
      go_ret
      rw [HF.out]
      exact ⟨rfl, rfl⟩
set_option maxHeartbeats 8000000 in
set_option maxRecDepth 100000 in
theorem refnames_any (A : Option Addr) (l : List Ptm) (cap : Nat) (w : World) (hs : Pats w w.heap.size A l) (hn : l.length ≤ 100000) :
    Calls Tryz.prog 9 #[.slice A l.length cap] w (RowLeft w (namesD (pkeys l))) := by
  have HS := Lib.hid hs
  have HL : Hid ((pkeys l).length = l.length) := pkeys_len l
  have HNIL : Hid (OwnS w w.heap.size (.slice none 0 0) []) := OwnS.nil _ _
  have HG0 : Hid (Below w.heap.size w w) := Below.refl _ _
  clear hs
  go_enter Tryz.func9, Tryz.ntmps9
  go_wp2
  go_loopw [3, 4] (fun v i wr => ∃ (k : Nat) (v0 : Value), v0 = v ∧ k ≤ l.length ∧ i = .int .i64 (k : Int) ∧ Hid (OwnS wr w.heap.size v0 (namesD ((pkeys l).take k))) ∧ Hid (Below w.heap.size w wr)) (fun _ i _ => l.length - (intOf i).toNat)
  case atStart => exact ⟨0, _, rfl, Nat.zero_le _, rfl, HNIL.out, HG0.out⟩
  case round =>
    clear HNIL HG0
    obtain ⟨k, v, rfl, hk, rfl, HO, HG⟩ := hrel
    by_cases hlt : k < l.length
    · obtain ⟨b, off, rfl, hbB, hcx⟩ := (HS.out.on HG.out).1.get hlt
      have c0 : wr.cell? ⟨b, off + k * 3, none⟩ = some (.string l[k].name) := hcx 0 _ rfl
      have HSTEP : Hid (namesD ((pkeys l).take (k + 1)) = namesD ((pkeys l).take k) ++ [l[k].name.data.toList]) := by
        show _ = _
        rw [names_take _ _ (by rw [HL.out]; exact hlt), pkeys_get l k hlt]
        rfl
      have hle : (namesD ((pkeys l).take k)).length + [l[k].name.data.toList].length ≤ 1000000 := by
        simp [namesD, List.length_take]
        omega
      have hB : w.heap.size ≤ wr.heap.size := HG.out.size
      have u0 : (0 : Int) ≤ (k : Int) := by omega
      have u1 : (k : Int) < (l.length : Int) := by omega
      generalize l[k].name = s at *
      generalize namesD ((pkeys l).take k) = ls at *
      have HO1 := Lib.hid (show OwnS (wr.alloc (.cells #[.string s] 9)) w.heap.size _ ls from World.ownsRow.alloc HO.out _)
      have hBs : w.heap.size ≤ (wr.alloc (.cells #[.string s] 9)).heap.size := by simp; omega
      clear hcx hbB HO
      go_wp2_with (at_builtin; refine wpList_append_strs rfl _ _ rfl w.heap.size _ ls [s.data.toList] rfl HO1.out (some ⟨wr.heap.size, 0, none⟩) 1 1 rfl rfl (fun e => by cases e) (strs_one wr s) hBs hle ?_)
      intro v2 w6 ho2 hg2
      have HB2 : Hid (Below w.heap.size w w6) := below_append (HG.out.alloc HG.out.size _) HO1.out hg2 (Nat.le_refl _)
      have HO2 := Lib.hid ho2
      clear ho2 hg2 HO1 HG
      go_wp2
      go_roundw
      case rel => exact ⟨k + 1, _, rfl, by omega, by go_num, by rw [HSTEP.out]; exact HO2.out, HB2.out⟩
      case measure => simp [intOf]; omega
    · have HF : Hid (RowLeft w (namesD (pkeys l)) (.returned v) wr) := by
        have e : (pkeys l).take k = pkeys l := List.take_of_length_le (by rw [HL.out]; omega)
        have h := HO.out
        rw [e] at h
        exact own_row ⟨_, rfl, h, HG.out⟩
      clear HO HG
      go_wp2
      go_ret
      exact HF.out
/-- A part of the patches' deps is not too long. -/
theorem gather_le (l : List PatK) (ns : List (List UInt8)) (k : Nat) (h : ∀ p ∈ l, p.deps.length ≤ 60) (hn : l.length ≤ 20) : (((l.take k).filter fun p => decide (p.name ∈ ns)).flatMap PatK.deps).length ≤ 1200 := by
  have h1 := gather_few (l.take k) ns 60 fun p hp => h p (List.mem_of_mem_take hp)
  have h2 : (l.take k).length ≤ 20 := by rw [List.length_take]; omega
  omega
set_option maxHeartbeats 8000000 in
set_option maxRecDepth 100000 in
theorem refall_any (A : Option Addr) (l : List Ptm) (c : Nat) (B : Option Addr) (ns : List (List UInt8)) (d : Nat) (w : World) (hd : DepIn w A l c) (hn : NamIn w B ns d) :
    Calls Tryz.prog 7 #[.slice A l.length c, .slice B ns.length d] w (RowLeft w (allD (pkeys l) ns)) := by
  have HD := Lib.hid hd
  have HN := Lib.hid hn
  have HL : Hid ((pkeys l).length = l.length) := pkeys_len l
  have HFW : Hid (∀ k, (((((pkeys l).take k).filter fun p => decide (p.name ∈ ns)).flatMap PatK.deps).length ≤ 1200)) := fun k => gather_le _ _ _ (fun p hp => by
    obtain ⟨x, hx, rfl⟩ := List.mem_map.1 hp
    exact (hd.lt x hx).few) (by rw [pkeys_len]; exact hd.few)
  have hfew := hn.few
  have hlf := hd.few
  have hnil : B = none → d = 0 := hn.room.1
  have HM := Lib.hid (own_made w w.heap.size (Nat.le_refl _))
  have HB0 : Hid (Below w.heap.size w (w.alloc (.cells #[] 9))) := (Below.refl _ w).alloc (Nat.le_refl _) _
  clear hd hn
  go_enter Tryz.func7, Tryz.ntmps7
  go_wp2_with (at_builtin; refine wpList_append_strs rfl _ _ rfl w.heap.size _ [] ns rfl HM.out B d ns.length rfl rfl hnil (HN.out.on HB0.out).strs (by simp) (by simp; omega) ?_)
  intro v1 w1 ho1 hg1
  have HG1 : Hid (Below w.heap.size w w1) := below_append HB0.out HM.out hg1 (Nat.le_refl _)
  have HO1 : Hid (OwnS w1 w.heap.size v1 ns) := ho1
  clear ho1 hg1 HM HB0
  go_wp2
  go_loopw [5, 6] (fun v i wr => ∃ (k : Nat) (v0 : Value), v0 = v ∧ k ≤ l.length ∧ i = .int .i64 (k : Int) ∧ Hid (OwnS wr w.heap.size v0 (gatherD ((pkeys l).take k) ns)) ∧ Hid (Below w.heap.size w wr)) (fun _ i _ => l.length - (intOf i).toNat)
  case atStart => exact ⟨0, _, rfl, Nat.zero_le _, rfl, by show OwnS _ _ _ _; simpa [gatherD] using HO1.out, HG1.out⟩
  case round =>
    clear HO1 HG1
    obtain ⟨k, v, rfl, hk, rfl, HO, HG⟩ := hrel
    by_cases hlt : k < l.length
    · obtain ⟨b, off, rfl, hbB, hcx⟩ := (HD.out.on HG.out).pats.1.get hlt
      have c0 : wr.cell? ⟨b, off + k * 3, none⟩ = some (.string l[k].name) := hcx 0 _ rfl
      have c1 : wr.cell? ⟨b, off + k * 3 + 1, none⟩ = some (.slice l[k].a1 l[k].deps.length l[k].c1) := hcx 1 _ rfl
      have HST : Hid (gatherD ((pkeys l).take (k + 1)) ns = gatherD ((pkeys l).take k) ns ++ (if l[k].name.data.toList ∈ ns then l[k].deps else [])) := by
        show _ = _
        unfold gatherD
        rw [gather_take _ ns k (by rw [HL.out]; exact hlt), pkeys_get l k hlt, List.append_assoc]
        rfl
      have hle : (gatherD ((pkeys l).take k) ns).length ≤ 1220 := by
        have := HFW.out k
        unfold gatherD
        rw [List.length_append]
        omega
      have OK := Lib.hid ((HD.out.on HG.out).pats.ok hlt)
      have hfd : l[k].deps.length ≤ 60 := (HD.out.lt _ (List.getElem_mem hlt)).few
      have hB : w.heap.size ≤ wr.heap.size := HG.out.size
      have u0 : (0 : Int) ≤ (k : Int) := by omega
      have u1 : (k : Int) < (l.length : Int) := by omega
      have CH := Lib.hid (refhas_l B ns d wr l[k].name (HN.out.on HG.out).strs (by omega))
      generalize l[k] = x at *
      generalize gatherD ((pkeys l).take k) ns = ls at *
      clear hcx hbB
      by_cases he : x.name.data.toList ∈ ns
      · rw [if_pos he] at HST
        rw [decide_eq_true he] at CH
        clear he
        go_wp2_with fail
        refine CH.out.mono ?_
        rintro e w1 ⟨rfl, hw⟩
        subst hw
        go_wp2_with (at_builtin; refine wpList_append_strs rfl _ _ rfl w.heap.size _ ls x.deps rfl HO.out x.a1 x.c1 x.deps.length rfl rfl OK.out.room1.1 OK.out.deps hB (by omega) ?_)
        intro v2 w6 ho2 hg2
        have HB2 : Hid (Below w.heap.size w w6) := below_append HG.out HO.out hg2 (Nat.le_refl _)
        have HO2 := Lib.hid ho2
        clear ho2 hg2 HO HG OK CH
        go_wp2
        go_roundw
        case rel => exact ⟨k + 1, _, rfl, by omega, by go_num, by rw [HST.out]; exact HO2.out, HB2.out⟩
        case measure => simp [intOf]; omega
      · rw [if_neg he, List.append_nil] at HST
        rw [decide_eq_false he] at CH
        clear he
        go_wp2_with fail
        refine CH.out.mono ?_
        rintro e w1 ⟨rfl, hw⟩
        subst hw
        clear CH OK
        go_wp2
        go_roundw
        case rel => exact ⟨k + 1, _, rfl, by omega, by go_num, by rw [HST.out]; exact HO.out, HG.out⟩
        case measure => simp [intOf]; omega
    · have e : (pkeys l).take k = pkeys l := List.take_of_length_le (by rw [HL.out]; omega)
      have h := HO.out
      rw [e] at h
      obtain ⟨A1, c1, rfl, hs1, _, _⟩ := h.strs
      have hle : (gatherD (pkeys l) ns).length ≤ 100000 := by
        have := HFW.out l.length
        rw [List.take_of_length_le (by rw [HL.out]; omega)] at this
        unfold gatherD
        rw [List.length_append]
        omega
      have CS := Lib.hid (refset_l A1 (gatherD (pkeys l) ns) c1 wr hs1 hle)
      clear HO e h hs1 hle
      go_wp2_with fail
      refine CS.out.mono ?_
      rintro e w2 ⟨A2, c2, rfl, hA2, hs2, hb2⟩
      have HF : Hid (RowLeft w (allD (pkeys l) ns) (.returned (.slice A2 (setS (gatherD (pkeys l) ns)).length c2)) w2) := ⟨A2, c2, rfl, hA2, hs2, HG.out.trans (hb2.mono HG.out.size)⟩
      clear CS hs2 hb2 HG
      go_wp2
      go_ret
      exact HF.out
end Go.Proofs.YtifkpelcdihdoaaGreatDoor
namespace Go.Proofs.YtifkpelcdihdoaaGreatDoor
open Go.RowKit
set_option linter.unusedVariables false

namespace Rk
variable {α : Type}
theorem wpList_append_at (R : Rk α) {w : World} {ops : Array Oper} {rest : List Oper} {o : Oper} {a : Act} {Q : Exit → Act → World → Prop} (hgd : o.guard = none) (s x : Operand)
    (ho : o.op = .call { callee := .builtin .append, args := #[s, x], argTypes := #[R.tys, R.tys] })
    (B : Nat) (v : Value) (fs tt : List α) (hs : a.eval s = v) (hown : R.Own w B v fs) (A : Option Addr) (cap n : Nat) (hx : a.eval x = .slice A n cap) (hn : n = tt.length) (hnil : A = none → cap = 0) {C : Nat} (ht : R.Row w C A tt) (hB : B ≤ w.heap.size) (hle : fs.length + tt.length ≤ 1000000)
    (m : Nat) (hm : m = fs.length + tt.length)
    (h : ∀ A' cap' w', R.Own w' B (.slice A' m cap') (fs ++ tt) → w.grownBy w' v.ownBlock → ((Value.slice A' m cap').ownBlock = v.ownBlock ∨ (Value.slice A' m cap').ownBlock = some w.heap.size) → wpList Tryz.prog ops Q rest (a.put o.dst (.slice A' m cap')) w') : wpList Tryz.prog ops Q (o :: rest) a w := by
  have key : ∀ v' w', R.Own w' B v' (fs ++ tt) → w.grownBy w' v.ownBlock → (v'.ownBlock = v.ownBlock ∨ v'.ownBlock = some w.heap.size) → wpList Tryz.prog ops Q rest (a.put o.dst v') w' := fun v' w' ho' hg' hb' => by
    obtain ⟨A', cap', rfl, _, _, _, _⟩ := ho'.slice
    have e : (fs ++ tt).length = m := by rw [List.length_append, hm]
    rw [e] at ho' hb' ⊢
    exact h A' cap' w' ho' hg' hb'
  subst hn
  obtain ⟨i0, hi, hz0, hz1, hz2⟩ := R.info_of
  cases A with
  | none =>
    have h0 : tt = [] := by
      cases tt with
      | nil => rfl
      | cons y r => exact absurd (ht (by simp)) (by rintro ⟨_, _, e, _⟩; cases e)
    subst h0
    rw [hnil rfl] at hx
    refine wpList_append_own_none hgd s x R.tys ho B R.ty i0 R.k R.und hi v _ _ hs hown hx ?_
    exact key v w (by simpa using hown) ⟨rfl, rfl, rfl, Nat.le_refl _, fun _ _ _ => rfl⟩ (.inl rfl)
  | some ad =>
    obtain ⟨f1, f2⟩ := append_fits hle R.small
    refine wpList_append_own_at w hgd s x R.tys ho B R.ty i0 _ R.k R.bytes R.und hi hz0 hz1 hz2 R.zsz R.pos v fs.length (R.cells fs) hs hown ad tt.length cap (R.cells tt) hx (R.cells_len tt) ?_ (R.oneCells tt) f1 f2 hB ?_
    · intro j u hu
      obtain ⟨hj, hju⟩ := List.getElem?_eq_some_iff.1 hu
      rw [R.cells_len] at hj
      obtain ⟨b, off, e, _, hc⟩ := ht (Nat.pos_of_ne_zero fun h0 => by rw [h0] at hj; simp at hj)
      simp only [Option.some.injEq] at e
      subst e
      rw [rec_add]
      exact hc j u hu
    · intro v' w' hown' hgrow _ hb'
      refine key v' w' ?_ hgrow hb'
      unfold Own
      rw [List.length_append, cells_app]
      exact hown'
theorem Row.grown {R : Rk α} {w w' : World} {B : Nat} {A : Option Addr} {l : List α} {row : Option Nat} (h : R.Row w B A l) (hg : w.grownBy w' row) (hr : ∀ b off, A = some ⟨b, off, none⟩ → row ≠ some b) : R.Row w' B A l := fun hp => by
  obtain ⟨b, off, e, hlt, hc⟩ := h hp
  refine ⟨b, off, e, hlt, fun i u hu => ?_⟩
  have h1 := hc i u hu
  have hlt2 : b < w.heap.size := rec_cell_lt h1
  have h2 := hg.block b hlt2 (fun e2 => hr b off e e2.symm)
  unfold World.cell? at h1 ⊢
  rw [h2]
  exact h1
end Rk
end Go.Proofs.YtifkpelcdihdoaaGreatDoor
