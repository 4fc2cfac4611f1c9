/- The reference's Same: are two lists of texts the same? The reference's Names, Right, Join, Begins, Less of layer 5. A part of a row of strings: what slicing gives, in one way. -/
import Derived.Test.YtaepfahpbnpeiaaGreatDoorCk01
import Derived.BigQuiet
import Derived.Deep.QuietTactic
import Derived.Handy
import Derived.Test.YtaepfahpbnpeiaaGreatDoorCk04
import Derived.Test.YtaepfahpbnpeiaaGreatDoorCk02
namespace Go.Proofs.YtaepfahpbnpeiaaGreatDoor
open Go.RowKit
set_option linter.unusedVariables false


set_option maxRecDepth 100000 in
theorem same_q (A A2 : Option Addr) (ss tt : List ByteArray) (cap cap2 : Nat) (w : World) (hs : Strs w w.heap.size A ss) (ht : Strs w w.heap.size A2 tt)
    (hn : ss.length ≤ 140737488351232) (hn2 : tt.length ≤ 140737488351232) :
    Calls Tryz.prog 24 #[.slice A ss.length cap, .slice A2 tt.length cap2] w fun e w' => e = .returned (.bool (decide (ss = tt))) ∧ ∃ q, w' = w.drewN q := by
  by_cases hl : ss.length = tt.length
  · have Hl := Lib.hid hl
    have hb1 : (((ss.length : Int)) != (tt.length : Int)) = false := by simp; omega
    clear hl
    go_enter Tryz.func24, Tryz.ntmps24
    go_wp2
    go_loopw [5] (fun i wr => ∃ k : Nat, k ≤ ss.length ∧ i = .int .i64 (k : Int) ∧ Hid (∀ j (hj : j < ss.length) (hj2 : j < tt.length), j < k → ss[j] = tt[j]) ∧ ∃ q, wr = w.drewN q) (fun i _ => ss.length - (intOf i).toNat)
    case atStart => exact ⟨0, Nat.zero_le _, rfl, fun j _ _ h => absurd h (by omega), 0, rfl⟩
    case round =>
      obtain ⟨k, hk, rfl, hall, q, rfl⟩ := hrel
      by_cases hlt : k < ss.length
      · have hlt2 : k < tt.length := by have := Hl.out; omega
        obtain ⟨g, off, rfl, hg, hc⟩ := hs.at_ hlt
        obtain ⟨g2, off2, rfl, hg2, hc2⟩ := ht.at_ hlt2
        by_cases he : ss[k] = tt[k]
        · have hyes : Hid (∀ j (hj : j < ss.length) (hj2 : j < tt.length), j < k + 1 → ss[j] = tt[j]) := by
            intro j hj hj2 hjk
            by_cases hjk2 : j = k
            · subst hjk2; exact he
            · exact hall.out j hj hj2 (by omega)
          rw [← he] at hc2
          generalize ss[k] = s at *
          clear he hall hs ht
          go_wp2
          go_quiet (fail)
          go_wp2
          go_roundw
          case rel => exact ⟨k + 1, by omega, by go_num, hyes, _, rfl⟩
          case measure => simp [intOf]; omega
        · have hno : Hid (decide (ss = tt) = false) := by
            show _ = _
            simp only [decide_eq_false_iff_not]
            intro h
            subst h
            exact he rfl
          have hne : (ss[k].toList == tt[k].toList) = false := by
            rw [beq_eq_false_iff_ne]
            intro h
            exact he (by apply ByteArray.ext; apply Array.ext'; simpa only [toList_eq] using h)
          generalize ss[k] = s at *
          generalize tt[k] = t at *
          clear he hall hs ht
          go_wp2
          go_quiet (fail)
          go_wp2
          go_ret
          rw [hno.out]
          exact ⟨rfl, _, World.drewN_drewN _ _ _⟩
      · have hk2 : k = ss.length := by omega
        subst hk2
        have hyes : Hid (decide (ss = tt) = true) := by
          show _ = _
          rw [decide_eq_true_eq]
          exact List.ext_getElem Hl.out fun j h1 h2 => hall.out j h1 h2 h1
        clear hall
        go_wp2
        go_ret
        rw [hyes.out]
        exact ⟨rfl, q, rfl⟩
  · have hno : Hid (decide (ss = tt) = false) := by
      show _ = _
      simp only [decide_eq_false_iff_not]
      intro h
      subst h
      exact hl rfl
    have hb1 : (((ss.length : Int)) != (tt.length : Int)) = true := by simp; omega
    go_enter Tryz.func24, Tryz.ntmps24
    go_wp2
    go_ret
    rw [hno.out]
    exact ⟨rfl, 0, rfl⟩
theorem same_any (A A2 : Option Addr) (ss tt : List ByteArray) (cap cap2 : Nat) (w : World) (hs : Strs w w.heap.size A ss) (ht : Strs w w.heap.size A2 tt)
    (hn : ss.length ≤ 140737488351232) (hn2 : tt.length ≤ 140737488351232) :
    Calls Tryz.prog 24 #[.slice A ss.length cap, .slice A2 tt.length cap2] w fun e w' => e = .returned (.bool (decide (ss = tt))) ∧ Below w.heap.size w w' :=
  (same_q A A2 ss tt cap cap2 w hs ht hn hn2).mono fun e w' ⟨h1, q, h2⟩ => ⟨h1, by rw [h2]; exact below_drewN (Below.refl _ _) q⟩
end Go.Proofs.YtaepfahpbnpeiaaGreatDoor
namespace Go.Proofs.YtaepfahpbnpeiaaGreatDoor
open Go.RowKit
set_option linter.unusedVariables false

def nameP (l : List UInt8) : Bool := rightB (toB l)
theorem ext_list (s : ByteArray) (a i : Nat) : (s.extract a i).data.toList = (s.data.toList.drop a).take (i - a) := by
  simp [ByteArray.data_extract, List.take_drop]
  try (rw [List.drop_take])
theorem ext_toB (s : ByteArray) (a i : Nat) : s.extract a i = toB ((s.data.toList.drop a).take (i - a)) := by
  rw [← ext_list, toB_of]
theorem byte_get {s : ByteArray} {i : Nat} (h : i < s.size) : s.data.toList[i]? = some s[i] := by
  have : i < s.data.toList.length := by simpa using h
  rw [List.getElem?_eq_getElem this]
  rfl
theorem names_long {p : List UInt8} (h : 200 < p.length) : names nameP p = [] := by
  unfold names
  rw [if_neg]
  rintro ⟨h1, _⟩
  omega

set_option maxHeartbeats 2000000 in
set_option maxRecDepth 100000 in
theorem refnames_any (s : ByteArray) (w : World) (hs : s.size ≤ 9223372036854775807) :
    Calls Tryz.prog 17 #[.string s] w fun e w' => ∃ v, e = .returned v ∧ OwnS w' w.heap.size v (names nameP s.data.toList) ∧ Below w.heap.size w w' := by
  have hsz : s.data.toList.length = s.size := by simp
  by_cases h2 : 200 < s.size
  · have hr : Hid (names nameP s.data.toList = []) := names_long (by omega)
    go_enter Tryz.func17, Tryz.ntmps17
    go_wp2
    go_ret
    rw [hr.out]
    exact ⟨_, rfl, OwnS.nil _ _, Below.refl _ _⟩
  · obtain ⟨p, hp⟩ : ∃ p, s.data.toList = p := ⟨_, rfl⟩
    rw [hp] at hsz ⊢
    have HP := Lib.hid hp
    have HN := Lib.hid hsz
    have hl : s.size ≤ 200 := by omega
    clear hp hsz h2
    go_enter Tryz.func17, Tryz.ntmps17
    go_wp2
    go_loopw [3, 4, 5] (fun v av iv wr => ∃ (a i : Nat) (ls : List (List UInt8)), av = .int .i64 (a : Int) ∧ iv = .int .i64 (i : Int) ∧ a ≤ s.size + 1 ∧ i ≤ s.size + 1 ∧ a ≤ i ∧ ls.length ≤ i ∧ Hid (ls.all nameP = true) ∧ Hid ((i ≤ s.size → pieces p = ls ++ pieces (p.drop a) ∧ NoSlash p a i) ∧ (i = s.size + 1 → pieces p = ls)) ∧
        Hid (OwnS wr w.heap.size v ls) ∧ Below w.heap.size w wr) (fun _ _ iv _ => s.size + 1 - (intOf iv).toNat)
    case atStart => exact ⟨0, 0, [], rfl, rfl, by omega, by omega, Nat.le_refl _, Nat.le_refl _, rfl, ⟨fun _ => ⟨rfl, NoSlash.none _ _⟩, fun h => by omega⟩, OwnS.nil _ _, Below.refl _ _⟩
    case round =>
      obtain ⟨a, i, ls, rfl, rfl, ha, hi, hai, hli, hall, hpc, hown, hb⟩ := hrel
      by_cases hend : i ≤ s.size
      · obtain ⟨hpc1, hno⟩ := hpc.out.1 hend
        have q1 : (i : Int) ≤ (s.size : Int) := by omega
        have q2 : (a : Int) ≤ (i : Int) := by omega
        have q3 : (0 : Int) ≤ (a : Int) := by omega
        by_cases hlt : i < s.size
        · have hbt := byte_get hlt
          rw [HP.out] at hbt
          by_cases h47 : s[i] = 47
          · have w1 : ((s[i].toNat : Int) != 47) = false := by rw [h47]; rfl
            have hps := pieces_at hai (by rw [HN.out]; exact hlt) hno (by rw [hbt, h47])
            have hx : nameP ((p.drop a).take (i - a)) = rightB (s.extract a i) := by unfold nameP; rw [ext_toB, HP.out]
            obtain ⟨x, hxe⟩ : ∃ x, (s.extract a i).data.toList = x := ⟨_, rfl⟩
            have hxl : x = ((p.drop a).take (i - a)) := by rw [← hxe, ext_list, HP.out]
            have CR := Lib.hid (refright_any (s.extract a i) wr (by rw [ByteArray.size_extract]; omega))
            cases hd : rightB (s.extract a i) with
            | false =>
              have hfin : Hid (names nameP p = []) := names_no (l := ls) (x := ((p.drop a).take (i - a))) (r := pieces (p.drop (i + 1))) (by rw [hpc1, hps]) (by rw [hx, hd])
              rw [hd] at CR
              have HB := Lib.hid hb
              clear hpc hpc1 hno hall hps hx hd hxl hxe hb hown HP HN hbt h47
              go_wp2_with fail
              refine CR.out.mono ?_
              rintro e w1 ⟨rfl, rfl⟩
              go_wp2
              go_ret
              rw [hfin.out]
              exact ⟨_, rfl, OwnS.nil _ _, HB.out⟩
            | true =>
              have hall2 : Hid ((ls ++ [x]).all nameP = true) := by show _ = _; rw [List.all_append, hall.out, hxl]; simp [hx, hd]
              have hpc2 : Hid ((i + 1 ≤ s.size → pieces p = (ls ++ [x]) ++ pieces (p.drop (i + 1)) ∧ NoSlash p (i + 1) (i + 1)) ∧ (i + 1 = s.size + 1 → pieces p = ls ++ [x])) := by
                rw [hxl]
                exact ⟨fun _ => ⟨by rw [hpc1, hps, List.append_assoc]; rfl, NoSlash.none _ _⟩, fun h => by omega⟩
              rw [hd] at CR
              have hal : Below wr.heap.size wr (wr.alloc (.cells #[.string (s.extract a i)] 9)) := (Below.refl _ _).alloc (Nat.le_refl _) _
              have HO := Lib.hid (hown.out.kept hal)
              have HS0 := strs_one wr (s.extract a i)
              rw [hxe] at HS0
              have HS := Lib.hid HS0
              clear HS0 hxe
              have HBA := Lib.hid (hb.trans (hal.mono hb.size))
              have hbs := hb.size
              have hln : Hid ((ls ++ [x]).length ≤ i + 1) := by show _ ≤ _; rw [List.length_append]; simp; omega
              have hle : Hid (ls.length + [x].length ≤ 1000000) := by show _ ≤ _; simp; omega
              clear hpc hpc1 hno hall hps hx hd hxl hal hown hbt h47
              go_wp2_with fail
              refine CR.out.mono ?_
              rintro e w1 ⟨rfl, rfl⟩
              go_wp2_with (at_builtin; refine wpList_append_strs rfl _ _ rfl w.heap.size _ ls [x] rfl HO.out (some ⟨wr.heap.size, 0, none⟩) 1 1 rfl rfl (fun h => by cases h) HS.out (by simp; omega) hle.out ?_)
              intro v4 w4 ho4 hg4
              have HB4 := Lib.hid (below_append HBA.out HO.out hg4 (Nat.le_refl _))
              have HO4 := Lib.hid ho4
              clear ho4 hg4 HO HS HBA CR
              go_wp2
              go_roundw
              case rel => exact ⟨i + 1, i + 1, ls ++ [x], by go_num, by go_num, by omega, by omega, Nat.le_refl _, hln.out, hall2.out, (by first | exact hpc2.out | exact ⟨hpc2.out.1, fun _ => hpc2.out.2 trivial⟩), HO4.out, HB4.out⟩
              case measure => simp [intOf] <;> omega
          · have w1 : ((s[i].toNat : Int) != 47) = true := by
              rw [bne_iff_ne]
              intro h
              apply h47
              have : s[i].toNat = 47 := by omega
              exact UInt8.toNat_inj.1 (by rw [this]; rfl)
            have hno2 : Hid (NoSlash p a (i + 1)) := hno.more (by rw [hbt]; simpa using h47)
            have hpc2 : Hid ((i + 1 ≤ s.size → pieces p = ls ++ pieces (p.drop a) ∧ NoSlash p a (i + 1)) ∧ (i + 1 = s.size + 1 → pieces p = ls)) := ⟨fun _ => ⟨hpc1, hno2.out⟩, fun h => by omega⟩
            clear hpc hpc1 hno hno2 hbt h47
            go_wp2
            go_roundw
            case rel => exact ⟨a, i + 1, ls, rfl, by go_num, by omega, by omega, by omega, by omega, hall.out, hpc2.out, hown.out, hb⟩
            case measure => simp [intOf] <;> omega
        · obtain rfl : i = s.size := by omega
          have hps : pieces (p.drop a) = [(p.drop a).take (s.size - a)] := by
            have h1 := pieces_last (p := p) (a := a) (by rw [HN.out]; exact hno)
            rw [h1, List.take_of_length_le (by rw [List.length_drop, HN.out]; omega)]
          have hx : nameP ((p.drop a).take (s.size - a)) = rightB (s.extract a s.size) := by unfold nameP; rw [ext_toB, HP.out]
          obtain ⟨x, hxe⟩ : ∃ x, (s.extract a s.size).data.toList = x := ⟨_, rfl⟩
          have hxl : x = ((p.drop a).take (s.size - a)) := by rw [← hxe, ext_list, HP.out]
          have CR := Lib.hid (refright_any (s.extract a s.size) wr (by rw [ByteArray.size_extract]; omega))
          cases hd : rightB (s.extract a s.size) with
          | false =>
            have hfin : Hid (names nameP p = []) := names_no (l := ls) (x := ((p.drop a).take (s.size - a))) (r := []) (by rw [hpc1, hps]) (by rw [hx, hd])
            rw [hd] at CR
            have HB := Lib.hid hb
            clear hpc hpc1 hno hall hps hx hd hxl hxe hb hown HP HN
            go_wp2_with fail
            refine CR.out.mono ?_
            rintro e w1 ⟨rfl, rfl⟩
            go_wp2
            go_ret
            rw [hfin.out]
            exact ⟨_, rfl, OwnS.nil _ _, HB.out⟩
          | true =>
            have hall2 : Hid ((ls ++ [x]).all nameP = true) := by show _ = _; rw [List.all_append, hall.out, hxl]; simp [hx, hd]
            have hpc2 : Hid ((s.size + 1 ≤ s.size → pieces p = (ls ++ [x]) ++ pieces (p.drop (s.size + 1)) ∧ NoSlash p (s.size + 1) (s.size + 1)) ∧ (s.size + 1 = s.size + 1 → pieces p = ls ++ [x])) := by
              rw [hxl]
              exact ⟨fun h => by omega, fun _ => by rw [hpc1, hps]⟩
            rw [hd] at CR
            have hal : Below wr.heap.size wr (wr.alloc (.cells #[.string (s.extract a s.size)] 9)) := (Below.refl _ _).alloc (Nat.le_refl _) _
            have HO := Lib.hid (hown.out.kept hal)
            have HS0 := strs_one wr (s.extract a s.size)
            rw [hxe] at HS0
            have HS := Lib.hid HS0
            clear HS0 hxe
            have HBA := Lib.hid (hb.trans (hal.mono hb.size))
            have hbs := hb.size
            have hln : Hid ((ls ++ [x]).length ≤ s.size + 1) := by show _ ≤ _; rw [List.length_append]; simp; omega
            have hle : Hid (ls.length + [x].length ≤ 1000000) := by show _ ≤ _; simp; omega
            clear hpc hpc1 hno hall hps hx hd hxl hal hown
            go_wp2_with fail
            refine CR.out.mono ?_
            rintro e w1 ⟨rfl, rfl⟩
            go_wp2_with (at_builtin; refine wpList_append_strs rfl _ _ rfl w.heap.size _ ls [x] rfl HO.out (some ⟨wr.heap.size, 0, none⟩) 1 1 rfl rfl (fun h => by cases h) HS.out (by simp; omega) hle.out ?_)
            intro v4 w4 ho4 hg4
            have HB4 := Lib.hid (below_append HBA.out HO.out hg4 (Nat.le_refl _))
            have HO4 := Lib.hid ho4
            clear ho4 hg4 HO HS HBA CR
            go_wp2
            go_roundw
            case rel => exact ⟨s.size + 1, s.size + 1, ls ++ [x], by go_num, by go_num, by omega, by omega, Nat.le_refl _, hln.out, hall2.out, (by first | exact hpc2.out | exact ⟨hpc2.out.1, fun _ => hpc2.out.2 trivial⟩), HO4.out, HB4.out⟩
            case measure => simp [intOf] <;> omega
      · obtain rfl : i = s.size + 1 := by omega
        have hp := hpc.out.2 rfl
        have hpl : p.length ≤ 200 := by rw [HN.out]; exact hl
        by_cases h16 : 16 < ls.length
        · have hfin : Hid (names nameP p = []) := by
            show _ = _
            unfold names
            rw [if_neg]
            rintro ⟨_, _, h⟩
            rw [hp] at h
            omega
          obtain ⟨A5, cap5, rfl, _, _, _⟩ := hown.out.strs
          clear hpc hp hall hown
          go_wp2
          go_ret
          rw [hfin.out]
          exact ⟨_, rfl, OwnS.nil _ _, hb⟩
        · have hfin : Hid (names nameP p = ls) := by
            show _ = _
            unfold names
            rw [if_pos ⟨hpl, by rw [hp]; exact hall.out, by rw [hp]; omega⟩, hp]
          obtain ⟨A5, cap5, rfl, _, _, _⟩ := hown.out.strs
          have HO := Lib.hid hown.out
          clear hpc hp hall hown
          go_wp2
          go_ret
          rw [hfin.out]
          exact ⟨_, rfl, HO.out, hb⟩

/-- Names, where some draws and new blocks lie ahead. -/
theorem refpright_any (s : ByteArray) (w : World) (hs : s.size ≤ 9223372036854775807) :
    Calls Tryz.prog 16 #[.string s] w fun e w' => e = .returned (.bool (decide (names nameP s.data.toList ≠ []))) ∧ Below w.heap.size w w' := by
  obtain ⟨d, hd⟩ : ∃ d, d = decide (names nameP s.data.toList ≠ []) := ⟨_, rfl⟩
  rw [← hd]
  have HD := Lib.hid hd
  have C := Lib.hid (refnames_any s w hs)
  clear hd
  go_enter Tryz.func16, Tryz.ntmps16
  go_wp2_with fail
  refine C.out.mono ?_
  rintro e w1 ⟨v, rfl, ho, hb⟩
  obtain ⟨A, cap, rfl, _, _, _⟩ := ho.strs
  have hfin : Hid (d = decide (0 < (names nameP s.data.toList).length)) := by
    show _ = _
    rw [HD.out]
    exact decide_eq_decide.2 List.length_pos_iff.symm
  clear ho C
  generalize (names nameP s.data.toList).length = n at *
  go_wp2
  go_ret
  rw [hfin.out]
  exact ⟨by simp, hb⟩
theorem toB_append (x y : List UInt8) : toB (x ++ y) = toB x ++ toB y := by
  apply ByteArray.ext
  simp [toB, ByteArray.data_append]
theorem join_take (ls : List (List UInt8)) (k : Nat) (hk : k < ls.length) : joinB (ls.take (k + 1)) = if k = 0 then ls[k] else joinB (ls.take k) ++ 47 :: ls[k] := by
  rw [List.take_succ_eq_append_getElem hk, join_snoc]
  by_cases h : k = 0
  · subst h; simp
  · rw [if_neg h, if_neg]
    intro e
    have := congrArg List.length e
    rw [List.length_take] at this
    simp only [List.length_nil] at this
    omega
theorem join_take_le (ls : List (List UInt8)) (k : Nat) : (joinB (ls.take k)).length ≤ (joinB ls).length := by
  have e : (ls.map List.length).sum = ((ls.take k).map List.length).sum + ((ls.drop k).map List.length).sum := by
    rw [← List.sum_append, ← List.map_append, List.take_append_drop]
  rw [join_length, join_length, List.length_take]
  omega
set_option maxHeartbeats 1000000 in
set_option maxRecDepth 100000 in
theorem refjoin_any (A : Option Addr) (ls : List (List UInt8)) (cap : Nat) (w : World) (hs : Strs w w.heap.size A (toBs ls)) (hn : ls.length ≤ 1000000) (hB : (joinB ls).length ≤ 1000000) :
    Calls Tryz.prog 97 #[.slice A ls.length cap] w fun e w' => e = .returned (.string (toB (joinB ls))) ∧ w = w' := by
  have HS := Lib.hid hs
  clear hs
  go_enter Tryz.func97, Tryz.ntmps97
  go_wp2
  go_loop [3, 4] (fun sv iv => ∃ (k : Nat) (t : ByteArray), k ≤ ls.length ∧ iv = .int .i64 (k : Int) ∧ sv = .string t ∧ Hid (t = toB (joinB (ls.take k)))) (fun _ iv => ls.length - (intOf iv).toNat)
  case atStart => exact ⟨0, _, Nat.zero_le _, rfl, rfl, rfl⟩
  case round =>
    obtain ⟨k, t, hk, rfl, rfl, ht⟩ := hrel
    by_cases hlt : k < ls.length
    · obtain ⟨g, off, rfl, _, hc⟩ := HS.out.at_ (k := k) (by rw [toBs_len]; exact hlt)
      have e1 : (toBs ls)[k]'(by rw [toBs_len]; exact hlt) = toB ls[k] := by simp [toBs]
      rw [e1] at hc
      have hj := join_take ls k hlt
      have b1 := join_take_le ls k
      have b2 := join_take_le ls (k + 1)
      have b3 : t.size = (joinB (ls.take k)).length := by rw [ht.out]; simp [toB, ByteArray.size]
      have b4 : (toB ls[k]).size = ls[k].length := by simp [toB, ByteArray.size]
      rw [hj] at b2
      by_cases h0 : k = 0
      · subst h0
        have ht0 : t = ⟨#[]⟩ := by rw [ht.out]; rfl
        rw [if_pos rfl] at b2
        have b5 : (toB ls[0]).size ≤ 1000000 := by omega
        clear b1 b2 b3 b4
        have hnew : Hid ((⟨#[]⟩ : ByteArray) ++ toB ls[0] = toB (joinB (ls.take 1))) := by
          show _ = _
          rw [hj, if_pos rfl]
          apply ByteArray.ext
          simp [toB, ByteArray.data_append]
        subst ht0
        clear hj ht e1
        simp only [Nat.add_zero] at hc
        generalize toB ls[0] = z at *
        go_wp2
        go_round
        case rel => exact ⟨1, _, by omega, by go_num, rfl, by first | exact hnew.out | (have := hnew.out; simpa using this)⟩
        case measure => simp [intOf] <;> omega
      · have hnew : Hid ((t ++ ⟨#[47]⟩) ++ toB ls[k] = toB (joinB (ls.take (k + 1)))) := by
          show _ = _
          rw [hj, if_neg h0, ht.out, show (⟨#[47]⟩ : ByteArray) = toB [47] from rfl, ← toB_append, ← toB_append, List.append_assoc]
          rfl
        have q1 : (0 : Int) < (k : Int) := by omega
        rw [if_neg h0, List.length_append, List.length_cons] at b2
        have b5 : t.size ≤ 1000000 := by omega
        have b6 : (toB ls[k]).size ≤ 1000000 := by omega
        clear b1 b2 b3 b4
        clear hj ht e1
        generalize toB ls[k] = z at *
        go_wp2
        go_round
        case rel => exact ⟨k + 1, _, by omega, by go_num, rfl, hnew.out⟩
        case measure => simp [intOf] <;> omega
    · obtain rfl : k = ls.length := by omega
      have hfin : Hid (t = toB (joinB ls)) := by show _ = _; rw [ht.out, List.take_length]
      clear ht
      go_wp2
      go_ret
      rw [hfin.out]
      exact ⟨rfl, rfl⟩
end Go.Proofs.YtaepfahpbnpeiaaGreatDoor
namespace Go.Proofs.YtaepfahpbnpeiaaGreatDoor
open Go.RowKit
set_option linter.unusedVariables false

/-- A part of a row of strings: its address, its room. -/
structure Part (A : Option Addr) (A' : Option Addr) (cap' : Nat) (ls ld : List (List UInt8)) (i : Nat) : Prop where
  len : i + ld.length ≤ ls.length
  eq : ld = (ls.drop i).take ld.length
  strs : ∀ (w : World) (B : Nat), Strs w B A (toBs ls) → Strs w B A' (toBs ld)
  room : Room A' ld.length cap'
theorem size_str : (Tryz.prog.info? 9).map (·.size) = some 1 := by kernel_rfl
theorem run_slice_strs (A : Option Addr) (n cap i j : Nat) (low high : Option Value) (w : World) (hij : i ≤ j) (hj : j ≤ n) (hn : n ≤ cap) (hlow : low = some (.int .i64 (i : Int)) ∨ (low = none ∧ i = 0)) (hhigh : high = some (.int .i64 (j : Int)) ∨ (high = none ∧ j = n)) :
    (Instr.slice 36 (.slice A n cap) low high none).run Tryz.prog w = .ok (.slice (if cap = i then A else A.map (·.add i)) (j - i) (cap - i)) w := by
  have hb : ∀ w, (Instr.sliceBounds true n cap low high none).run Tryz.prog w = .ok (i, j, cap) w := by
    intro w
    have hi2 : (i : Int) ≤ (j : Int) := by omega
    have hj2 : (j : Int) ≤ (cap : Int) := by omega
    have hi3 : (i : Int) ≤ (n : Int) := by omega
    rcases hlow with rfl | ⟨rfl, rfl⟩ <;> rcases hhigh with rfl | ⟨rfl, rfl⟩ <;> simp [Instr.sliceBounds, Instr.sliceBound, asIntOf, go_sem, hij, show j ≤ cap by omega] <;> intros <;> omega
  obtain ⟨d, hd, hs⟩ : ∃ d, Tryz.prog.info? 9 = some d ∧ d.size = 1 := by
    have := size_str
    cases h : Tryz.prog.info? 9 with
    | none => rw [h] at this; cases this
    | some d => rw [h] at this; exact ⟨d, rfl, by simpa using this⟩
  unfold Instr.slice
  rw [Sem.run_bind, run_underlying Tryz.underlying36, Result.andThen_ok]
  simp only []
  rw [Sem.run_bind, hb, Result.andThen_ok]
  simp [sizeOf, typeInfo, hd, hs, Sem.run_bind]
theorem part_of (A : Option Addr) (ls : List (List UInt8)) (cap i j : Nat) (hr : Room A ls.length cap) (hij : i ≤ j) (hj : j ≤ ls.length) :
    ∃ A' cap' ld, ld = (ls.drop i).take (j - i) ∧ Part A A' cap' ls ld i ∧ ∀ (low high : Option Value) (w : World), (low = some (.int .i64 (i : Int)) ∨ (low = none ∧ i = 0)) → (high = some (.int .i64 (j : Int)) ∨ (high = none ∧ j = ls.length)) →
      (Instr.slice 36 (.slice A ls.length cap) low high none).run Tryz.prog w = .ok (.slice A' ld.length cap') w := by
  have hl : ((ls.drop i).take (j - i)).length = j - i := by rw [List.length_take, List.length_drop]; omega
  refine ⟨if cap = i then A else A.map (·.add i), cap - i, (ls.drop i).take (j - i), rfl, ⟨by rw [hl]; omega, by rw [hl], fun w B hs => ?_, ?_⟩, fun low high w h1 h2 => ?_⟩
  · by_cases hc : cap = i
    · have hz : (ls.drop i).take (j - i) = [] := by
        rw [← List.length_eq_zero_iff, hl]
        have := hr.2
        omega
      rw [hz]
      exact Strs.none_
    · rw [if_neg hc]
      refine hs.part i (j - i) _ fun b off hA hlt => ?_
      rw [hA, Option.map_some, add_row]
  · rw [hl]
    refine ⟨fun hA => ?_, by have := hr.2; omega⟩
    by_cases hc : cap = i
    · omega
    · rw [if_neg hc] at hA
      have : A = none := by cases A <;> simp_all
      have := hr.1 this
      omega
  · rw [hl]
    exact run_slice_strs A ls.length cap i j low high w hij hj hr.2 h1 h2
/-- What is behind i lines. -/
theorem part_from (A : Option Addr) (ls : List (List UInt8)) (cap i : Nat) (hr : Room A ls.length cap) (hi : i ≤ ls.length) :
    ∃ A' cap' ld, ld = ls.drop i ∧ Part A A' cap' ls ld i ∧ ∀ (w : World), (Instr.slice 36 (.slice A ls.length cap) (some (.int .i64 (i : Int))) none none).run Tryz.prog w = .ok (.slice A' ld.length cap') w := by
  obtain ⟨A', cap', ld, h1, h2, h3⟩ := part_of A ls cap i ls.length hr hi (Nat.le_refl _)
  refine ⟨A', cap', ld, ?_, h2, fun w => h3 _ _ w (.inl rfl) (.inr ⟨rfl, rfl⟩)⟩
  rw [h1, List.take_of_length_le (by rw [List.length_drop]; omega)]
/-- Lines i to j. -/
theorem part_mid (A : Option Addr) (ls : List (List UInt8)) (cap i j : Nat) (hr : Room A ls.length cap) (hij : i ≤ j) (hj : j ≤ ls.length) :
    ∃ A' cap' ld, ld = (ls.drop i).take (j - i) ∧ Part A A' cap' ls ld i ∧ ∀ (w : World), (Instr.slice 36 (.slice A ls.length cap) (some (.int .i64 (i : Int))) (some (.int .i64 (j : Int))) none).run Tryz.prog w = .ok (.slice A' ld.length cap') w := by
  obtain ⟨A', cap', ld, h1, h2, h3⟩ := part_of A ls cap i j hr hij hj
  exact ⟨A', cap', ld, h1, h2, fun w => h3 _ _ w (.inl rfl) (.inl rfl)⟩
theorem part_all (A : Option Addr) (ls : List (List UInt8)) (cap : Nat) (hr : Room A ls.length cap) :
    ∃ A' cap', Part A A' cap' ls ls 0 ∧ ∀ (w : World), (Instr.slice 36 (.slice A ls.length cap) none (some (.int .i64 (ls.length : Int))) none).run Tryz.prog w = .ok (.slice A' ls.length cap') w := by
  obtain ⟨A', cap', ld, h1, h2, h3⟩ := part_of A ls cap 0 ls.length hr (Nat.zero_le _) (Nat.le_refl _)
  have e : ld = ls := by rw [h1, List.drop_zero, Nat.sub_zero, List.take_length]
  subst e
  exact ⟨A', cap', h2, fun w => h3 _ _ w (.inr ⟨rfl, rfl⟩) (.inl rfl)⟩
end Go.Proofs.YtaepfahpbnpeiaaGreatDoor
