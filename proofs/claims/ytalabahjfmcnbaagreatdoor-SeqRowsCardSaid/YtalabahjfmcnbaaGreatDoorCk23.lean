/- Paths, plainly: their names; names joined; one order of paths. name.Right, and the reference's Right. The reference's Same: are two lists of texts the same? The reference's Names, Right, Join, Begins, Less of layer 5. The reference's Begins and Less of layer 5. Lines, plainly: which texts are lines; the text of lines; the lines of a text; where lines stand. The reference's Right, Check, Text, Split, At of layer 3. -/
import Derived.Test.YtalabahjfmcnbaaGreatDoorShelf
import Derived.BigQuiet
import Derived.Deep.QuietTactic
import Derived.Handy
import Derived.Shelf.Spec.BytesIndexFunc
import Derived.Lib.LaidU8
import Derived.BigRegion
import Derived.Test.YtalabahjfmcnbaaGreatDoorCk03
namespace Go.Proofs.YtalabahjfmcnbaaGreatDoor
set_option linter.unusedVariables false
set_option linter.unusedSectionVars false

section
variable (nm : List UInt8 → Bool)
end
section
variable (nm : List UInt8 → Bool)
end
theorem not_mem_cut {p : List UInt8} {a i : Nat} (h : NoSlash p a i) : (47 : UInt8) ∉ (p.drop a).take (i - a) := by
  intro hm
  obtain ⟨j, hj, e⟩ := List.getElem_of_mem hm
  rw [List.length_take, List.length_drop] at hj
  rw [List.getElem_take, List.getElem_drop] at e
  refine h (a + j) (by omega) (by omega) ?_
  rw [List.getElem?_eq_getElem (by omega), e]
theorem pieces_at {p : List UInt8} {a i : Nat} (ha : a ≤ i) (hi : i < p.length) (h : NoSlash p a i) (hs : p[i]? = some 47) : pieces (p.drop a) = (p.drop a).take (i - a) :: pieces (p.drop (i + 1)) := by
  have e : p.drop a = (p.drop a).take (i - a) ++ 47 :: p.drop (i + 1) := by
    have e1 := (List.take_append_drop (i - a) (p.drop a)).symm
    rw [List.drop_drop, show a + (i - a) = i by omega, List.drop_eq_getElem_cons hi] at e1
    rw [List.getElem?_eq_getElem hi, Option.some.injEq] at hs
    rwa [hs] at e1
  have := pieces_cut ((p.drop a).take (i - a)) (p.drop (i + 1)) (not_mem_cut h)
  rwa [← e] at this
theorem pieces_last {p : List UInt8} {a : Nat} (h : NoSlash p a p.length) : pieces (p.drop a) = [p.drop a] := by
  have := not_mem_cut h
  rw [List.take_of_length_le (by rw [List.length_drop]; omega)] at this
  exact pieces_one _ this
theorem names_no {nm : List UInt8 → Bool} {p x : List UInt8} {l r : List (List UInt8)} (h : pieces p = l ++ x :: r) (hx : nm x = false) : names nm p = [] := by
  unfold names
  rw [if_neg]
  rintro ⟨_, h2, _⟩
  have := List.all_eq_true.1 h2 x (by rw [h]; simp)
  rw [hx] at this
  cases this
end Go.Proofs.YtalabahjfmcnbaaGreatDoor
namespace Go.Proofs.YtalabahjfmcnbaaGreatDoor
open Go.RowKit
set_option linter.unusedVariables false

set_option maxRecDepth 100000 in
/-- The reference's letter. -/
theorem letter_any (c : UInt8) (w : World) :
    Calls Tryz.prog 162 #[.int .u8 (c.toNat : Int)] w fun e w' => e = .returned (.bool (nameL.data.toList.contains c)) ∧ w = w' := by
  obtain ⟨L, hL⟩ : ∃ L, L = nameL := ⟨_, rfl⟩
  have hsz : L.size = 39 := by rw [hL]; rfl
  have hL2 : (⟨#[97, 98, 99, 100, 101, 102, 103, 104, 105, 106, 107, 108, 109, 110, 111, 112, 113, 114, 115, 116, 117, 118, 119, 120, 121, 122, 48, 49, 50, 51, 52, 53, 54, 55, 56, 57, 46, 95, 45]⟩ : ByteArray) = L := by rw [hL]; rfl
  rw [← hL]
  clear hL
  go_enter Tryz.func162, Tryz.ntmps162
  go_wp2
  go_loop [4] (fun i => ∃ k : Nat, k ≤ L.size ∧ i = .int .i64 (k : Int) ∧ Hid (∀ j (hj : j < L.size), j < k → L[j] ≠ c)) (fun i => L.size - (intOf i).toNat)
  case atStart => exact ⟨0, Nat.zero_le _, rfl, fun j _ h => absurd h (by omega)⟩
  case round =>
    obtain ⟨k, hk, rfl, hall⟩ := hrel
    by_cases hlt : k < L.size
    · by_cases he : L[k] = c
      · have hyes : Hid (decide (c ∈ L.data) = true) := by
          show _ = _
          rw [decide_eq_true_eq, ← Array.mem_toList_iff, ← he]
          exact List.getElem_mem (l := L.data.toList) (by simpa using hlt)
        have hq : ((L[k].toNat : Int) == (c.toNat : Int)) = true := by rw [he]; simp
        clear hall he
        go_wp2
        go_ret
        rw [hyes.out]
        exact ⟨rfl, rfl⟩
      · have hq : ((L[k].toNat : Int) == (c.toNat : Int)) = false := by
          rw [beq_eq_false_iff_ne]
          intro h
          exact he (UInt8.toNat_inj.1 (by omega))
        have hall2 : Hid (∀ j (hj : j < L.size), j < k + 1 → L[j] ≠ c) := by
          intro j hj hjk
          by_cases h : j = k
          · subst h; exact he
          · exact hall.out j hj (by omega)
        clear hall
        go_wp2
        go_round
        case rel => exact ⟨k + 1, by omega, by go_num, hall2⟩
        case measure => simp [intOf]; omega
    · have hk2 : k = L.size := by omega
      subst hk2
      have hno : Hid (decide (c ∈ L.data) = false) := by
        show _ = _
        rw [decide_eq_false_iff_not, ← Array.mem_toList_iff]
        intro h
        obtain ⟨j, hj, e⟩ := List.getElem_of_mem h
        exact hall.out j (by simpa using hj) (by simpa using hj) e
      clear hall
      go_wp2
      go_ret
      rw [hno.out]
      exact ⟨rfl, rfl⟩

set_option maxRecDepth 100000 in
theorem refright_any (s : ByteArray) (w : World) (hs : s.size ≤ 9223372036854775807) :
    Calls Tryz.prog 141 #[.string s] w fun e w' => e = .returned (.bool (rightB s)) ∧ w = w' := by
  go_enter Tryz.func141, Tryz.ntmps141
  go_wp2
  go_loop [3] (fun i => ∃ k : Nat, k ≤ s.size ∧ i = .int .i64 (k : Int) ∧ Hid (∀ j (hj : j < s.size), j < k → nameL.data.toList.contains s[j] = true)) (fun i => s.size - (intOf i).toNat)
  case atStart => exact ⟨0, Nat.zero_le _, rfl, fun j _ h => absurd h (by omega)⟩
  case round =>
    obtain ⟨k, hk, rfl, hall⟩ := hrel
    by_cases hlt : k < s.size
    · have hl := letter_any s[k]
      by_cases hin : nameL.data.toList.contains s[k] = true
      · rw [hin] at hl
        have hyes : Hid (∀ j (hj : j < s.size), j < k + 1 → nameL.data.toList.contains s[j] = true) := by
          intro j hj hjk
          by_cases hjk2 : j = k
          · subst hjk2; exact hin
          · exact hall.out j hj (by omega)
        clear hall hin
        go_wp2_with (go_at_call 162; refine (hl _).mono ?_; rintro e w1 ⟨rfl, rfl⟩)
        go_round
        case rel => exact ⟨k + 1, by omega, by go_num, hyes⟩
        case measure => simp [intOf]; omega
      · have hin2 : nameL.data.toList.contains s[k] = false := by simpa using hin
        rw [hin2] at hl
        have hno : Hid (rightB s = false) := by
          show _ = _
          unfold rightB
          rw [allIn_no hlt hin2]
          simp
        clear hall hin hin2
        go_wp2_with (go_at_call 162; refine (hl _).mono ?_; rintro e w1 ⟨rfl, rfl⟩)
        go_ret
        rw [hno.out]
        exact ⟨rfl, rfl⟩
    · have hk2 : k = s.size := by omega
      subst hk2
      have hyes := allIn_yes fun j hj => hall.out j hj hj
      clear hall
      by_cases h1 : s.size < 1
      · have hr : Hid (rightB s = false) := by show _ = _; simp [rightB]; omega
        clear hyes
        go_wp2
        go_ret
        rw [hr.out]
        exact ⟨rfl, rfl⟩
      · by_cases h2 : 40 < s.size
        · have hr : Hid (rightB s = false) := by show _ = _; simp [rightB]; omega
          clear hyes
          go_wp2
          go_ret
          rw [hr.out]
          exact ⟨rfl, rfl⟩
        · by_cases h3 : s = ⟨#[46]⟩
          · have hr : Hid (rightB s = false) := by rw [h3]; show _ = _; decide
            subst h3
            clear hyes
            go_wp2
            go_ret
            rw [hr.out]
            exact ⟨rfl, rfl⟩
          · by_cases h4 : s = ⟨#[46, 46]⟩
            · have hr : Hid (rightB s = false) := by rw [h4]; show _ = _; decide
              subst h4
              clear hyes
              go_wp2
              go_ret
              rw [hr.out]
              exact ⟨rfl, rfl⟩
            · have hr : Hid (rightB s = true) := by show _ = _; rw [rightB_full (by omega) (by omega) h3 h4]; exact hyes
              have e3 := ne_toList (l := [46]) h3
              have e4 := ne_toList (l := [46, 46]) h4
              have b3 := ne_beq (l := [46]) h3
              have b4 := ne_beq (l := [46, 46]) h4
              clear hyes h3 h4
              go_wp2
              go_ret
              rw [hr.out]
              exact ⟨rfl, rfl⟩
end Go.Proofs.YtalabahjfmcnbaaGreatDoor
namespace Go.Proofs.YtalabahjfmcnbaaGreatDoor
open Go.RowKit
set_option linter.unusedVariables false


set_option maxRecDepth 100000 in
theorem same_q (A A2 : Option Addr) (ss tt : List ByteArray) (cap cap2 : Nat) (w : World) (hs : Strs w w.heap.size A ss) (ht : Strs w w.heap.size A2 tt)
    (hn : ss.length ≤ 140737488351232) (hn2 : tt.length ≤ 140737488351232) :
    Calls Tryz.prog 23 #[.slice A ss.length cap, .slice A2 tt.length cap2] w fun e w' => e = .returned (.bool (decide (ss = tt))) ∧ ∃ q, w' = w.drewN q := by
  by_cases hl : ss.length = tt.length
  · have Hl := Lib.hid hl
    have hb1 : (((ss.length : Int)) != (tt.length : Int)) = false := by simp; omega
    clear hl
    go_enter Tryz.func23, Tryz.ntmps23
    go_wp2
    go_loopw [5] (fun i wr => ∃ k : Nat, k ≤ ss.length ∧ i = .int .i64 (k : Int) ∧ Hid (∀ j (hj : j < ss.length) (hj2 : j < tt.length), j < k → ss[j] = tt[j]) ∧ ∃ q, wr = w.drewN q) (fun i _ => ss.length - (intOf i).toNat)
    case atStart => exact ⟨0, Nat.zero_le _, rfl, fun j _ _ h => absurd h (by omega), 0, rfl⟩
    case round =>
      obtain ⟨k, hk, rfl, hall, q, rfl⟩ := hrel
      by_cases hlt : k < ss.length
      · have hlt2 : k < tt.length := by have := Hl.out; omega
        obtain ⟨g, off, rfl, hg, hc⟩ := hs.at_ hlt
        obtain ⟨g2, off2, rfl, hg2, hc2⟩ := ht.at_ hlt2
        by_cases he : ss[k] = tt[k]
        · have hyes : Hid (∀ j (hj : j < ss.length) (hj2 : j < tt.length), j < k + 1 → ss[j] = tt[j]) := by
            intro j hj hj2 hjk
            by_cases hjk2 : j = k
            · subst hjk2; exact he
            · exact hall.out j hj hj2 (by omega)
          rw [← he] at hc2
          generalize ss[k] = s at *
          clear he hall hs ht
          go_wp2
          go_quiet (fail)
          go_wp2
          go_roundw
          case rel => exact ⟨k + 1, by omega, by go_num, hyes, _, rfl⟩
          case measure => simp [intOf]; omega
        · have hno : Hid (decide (ss = tt) = false) := by
            show _ = _
            simp only [decide_eq_false_iff_not]
            intro h
            subst h
            exact he rfl
          have hne : (ss[k].toList == tt[k].toList) = false := by
            rw [beq_eq_false_iff_ne]
            intro h
            exact he (by apply ByteArray.ext; apply Array.ext'; simpa only [toList_eq] using h)
          generalize ss[k] = s at *
          generalize tt[k] = t at *
          clear he hall hs ht
          go_wp2
          go_quiet (fail)
          go_wp2
          go_ret
          rw [hno.out]
          exact ⟨rfl, _, World.drewN_drewN _ _ _⟩
      · have hk2 : k = ss.length := by omega
        subst hk2
        have hyes : Hid (decide (ss = tt) = true) := by
          show _ = _
          rw [decide_eq_true_eq]
          exact List.ext_getElem Hl.out fun j h1 h2 => hall.out j h1 h2 h1
        clear hall
        go_wp2
        go_ret
        rw [hyes.out]
        exact ⟨rfl, q, rfl⟩
  · have hno : Hid (decide (ss = tt) = false) := by
      show _ = _
      simp only [decide_eq_false_iff_not]
      intro h
      subst h
      exact hl rfl
    have hb1 : (((ss.length : Int)) != (tt.length : Int)) = true := by simp; omega
    go_enter Tryz.func23, Tryz.ntmps23
    go_wp2
    go_ret
    rw [hno.out]
    exact ⟨rfl, 0, rfl⟩
end Go.Proofs.YtalabahjfmcnbaaGreatDoor
namespace Go.Proofs.YtalabahjfmcnbaaGreatDoor
open Go.RowKit
set_option linter.unusedVariables false

set_option maxHeartbeats 2000000 in
set_option maxRecDepth 100000 in
theorem refnames_any (s : ByteArray) (w : World) (hs : s.size ≤ 9223372036854775807) :
    Calls Tryz.prog 100 #[.string s] w fun e w' => ∃ v, e = .returned v ∧ OwnS w' w.heap.size v (names nameP s.data.toList) ∧ Below w.heap.size w w' := by
  have hsz : s.data.toList.length = s.size := by simp
  by_cases h2 : 200 < s.size
  · have hr : Hid (names nameP s.data.toList = []) := names_long (by omega)
    go_enter Tryz.func100, Tryz.ntmps100
    go_wp2
    go_ret
    rw [hr.out]
    exact ⟨_, rfl, OwnS.nil _ _, Below.refl _ _⟩
  · obtain ⟨p, hp⟩ : ∃ p, s.data.toList = p := ⟨_, rfl⟩
    rw [hp] at hsz ⊢
    have HP := Lib.hid hp
    have HN := Lib.hid hsz
    have hl : s.size ≤ 200 := by omega
    clear hp hsz h2
    go_enter Tryz.func100, Tryz.ntmps100
    go_wp2
    go_loopw [3, 4, 5] (fun v av iv wr => ∃ (a i : Nat) (ls : List (List UInt8)), av = .int .i64 (a : Int) ∧ iv = .int .i64 (i : Int) ∧ a ≤ s.size + 1 ∧ i ≤ s.size + 1 ∧ a ≤ i ∧ ls.length ≤ i ∧ Hid (ls.all nameP = true) ∧ Hid ((i ≤ s.size → pieces p = ls ++ pieces (p.drop a) ∧ NoSlash p a i) ∧ (i = s.size + 1 → pieces p = ls)) ∧
        Hid (OwnS wr w.heap.size v ls) ∧ Below w.heap.size w wr) (fun _ _ iv _ => s.size + 1 - (intOf iv).toNat)
    case atStart => exact ⟨0, 0, [], rfl, rfl, by omega, by omega, Nat.le_refl _, Nat.le_refl _, rfl, ⟨fun _ => ⟨rfl, NoSlash.none _ _⟩, fun h => by omega⟩, OwnS.nil _ _, Below.refl _ _⟩
    case round =>
      obtain ⟨a, i, ls, rfl, rfl, ha, hi, hai, hli, hall, hpc, hown, hb⟩ := hrel
      by_cases hend : i ≤ s.size
      · obtain ⟨hpc1, hno⟩ := hpc.out.1 hend
        have q1 : (i : Int) ≤ (s.size : Int) := by omega
        have q2 : (a : Int) ≤ (i : Int) := by omega
        have q3 : (0 : Int) ≤ (a : Int) := by omega
        by_cases hlt : i < s.size
        · have hbt := byte_get hlt
          rw [HP.out] at hbt
          by_cases h47 : s[i] = 47
          · have w1 : ((s[i].toNat : Int) != 47) = false := by rw [h47]; rfl
            have hps := pieces_at hai (by rw [HN.out]; exact hlt) hno (by rw [hbt, h47])
            have hx : nameP ((p.drop a).take (i - a)) = rightB (s.extract a i) := by unfold nameP; rw [ext_toB, HP.out]
            obtain ⟨x, hxe⟩ : ∃ x, (s.extract a i).data.toList = x := ⟨_, rfl⟩
            have hxl : x = ((p.drop a).take (i - a)) := by rw [← hxe, ext_list, HP.out]
            have CR := Lib.hid (refright_any (s.extract a i) wr (by rw [ByteArray.size_extract]; omega))
            cases hd : rightB (s.extract a i) with
            | false =>
              have hfin : Hid (names nameP p = []) := names_no (l := ls) (x := ((p.drop a).take (i - a))) (r := pieces (p.drop (i + 1))) (by rw [hpc1, hps]) (by rw [hx, hd])
              rw [hd] at CR
              have HB := Lib.hid hb
              clear hpc hpc1 hno hall hps hx hd hxl hxe hb hown HP HN hbt h47
              go_wp2_with fail
              refine CR.out.mono ?_
              rintro e w1 ⟨rfl, rfl⟩
              go_wp2
              go_ret
              rw [hfin.out]
              exact ⟨_, rfl, OwnS.nil _ _, HB.out⟩
            | true =>
              have hall2 : Hid ((ls ++ [x]).all nameP = true) := by show _ = _; rw [List.all_append, hall.out, hxl]; simp [hx, hd]
              have hpc2 : Hid ((i + 1 ≤ s.size → pieces p = (ls ++ [x]) ++ pieces (p.drop (i + 1)) ∧ NoSlash p (i + 1) (i + 1)) ∧ (i + 1 = s.size + 1 → pieces p = ls ++ [x])) := by
                rw [hxl]
                exact ⟨fun _ => ⟨by rw [hpc1, hps, List.append_assoc]; rfl, NoSlash.none _ _⟩, fun h => by omega⟩
              rw [hd] at CR
              have hal : Below wr.heap.size wr (wr.alloc (.cells #[.string (s.extract a i)] 9)) := (Below.refl _ _).alloc (Nat.le_refl _) _
              have HO := Lib.hid (hown.out.kept hal)
              have HS0 := strs_one wr (s.extract a i)
              rw [hxe] at HS0
              have HS := Lib.hid HS0
              clear HS0 hxe
              have HBA := Lib.hid (hb.trans (hal.mono hb.size))
              have hbs := hb.size
              have hln : Hid ((ls ++ [x]).length ≤ i + 1) := by show _ ≤ _; rw [List.length_append]; simp; omega
              have hle : Hid (ls.length + [x].length ≤ 1000000) := by show _ ≤ _; simp; omega
              clear hpc hpc1 hno hall hps hx hd hxl hal hown hbt h47
              go_wp2_with fail
              refine CR.out.mono ?_
              rintro e w1 ⟨rfl, rfl⟩
              go_wp2_with (at_builtin; refine wpList_append_strs rfl _ _ rfl w.heap.size _ ls [x] rfl HO.out (some ⟨wr.heap.size, 0, none⟩) 1 1 rfl rfl (fun h => by cases h) HS.out (by simp; omega) hle.out ?_)
              intro v4 w4 ho4 hg4
              have HB4 := Lib.hid (below_append HBA.out HO.out hg4 (Nat.le_refl _))
              have HO4 := Lib.hid ho4
              clear ho4 hg4 HO HS HBA CR
              go_wp2
              go_roundw
              case rel => exact ⟨i + 1, i + 1, ls ++ [x], by go_num, by go_num, by omega, by omega, Nat.le_refl _, hln.out, hall2.out, (by first | exact hpc2.out | exact ⟨hpc2.out.1, fun _ => hpc2.out.2 trivial⟩), HO4.out, HB4.out⟩
              case measure => simp [intOf] <;> omega
          · have w1 : ((s[i].toNat : Int) != 47) = true := by
              rw [bne_iff_ne]
              intro h
              apply h47
              have : s[i].toNat = 47 := by omega
              exact UInt8.toNat_inj.1 (by rw [this]; rfl)
            have hno2 : Hid (NoSlash p a (i + 1)) := hno.more (by rw [hbt]; simpa using h47)
            have hpc2 : Hid ((i + 1 ≤ s.size → pieces p = ls ++ pieces (p.drop a) ∧ NoSlash p a (i + 1)) ∧ (i + 1 = s.size + 1 → pieces p = ls)) := ⟨fun _ => ⟨hpc1, hno2.out⟩, fun h => by omega⟩
            clear hpc hpc1 hno hno2 hbt h47
            go_wp2
            go_roundw
            case rel => exact ⟨a, i + 1, ls, rfl, by go_num, by omega, by omega, by omega, by omega, hall.out, hpc2.out, hown.out, hb⟩
            case measure => simp [intOf] <;> omega
        · obtain rfl : i = s.size := by omega
          have hps : pieces (p.drop a) = [(p.drop a).take (s.size - a)] := by
            have h1 := pieces_last (p := p) (a := a) (by rw [HN.out]; exact hno)
            rw [h1, List.take_of_length_le (by rw [List.length_drop, HN.out]; omega)]
          have hx : nameP ((p.drop a).take (s.size - a)) = rightB (s.extract a s.size) := by unfold nameP; rw [ext_toB, HP.out]
          obtain ⟨x, hxe⟩ : ∃ x, (s.extract a s.size).data.toList = x := ⟨_, rfl⟩
          have hxl : x = ((p.drop a).take (s.size - a)) := by rw [← hxe, ext_list, HP.out]
          have CR := Lib.hid (refright_any (s.extract a s.size) wr (by rw [ByteArray.size_extract]; omega))
          cases hd : rightB (s.extract a s.size) with
          | false =>
            have hfin : Hid (names nameP p = []) := names_no (l := ls) (x := ((p.drop a).take (s.size - a))) (r := []) (by rw [hpc1, hps]) (by rw [hx, hd])
            rw [hd] at CR
            have HB := Lib.hid hb
            clear hpc hpc1 hno hall hps hx hd hxl hxe hb hown HP HN
            go_wp2_with fail
            refine CR.out.mono ?_
            rintro e w1 ⟨rfl, rfl⟩
            go_wp2
            go_ret
            rw [hfin.out]
            exact ⟨_, rfl, OwnS.nil _ _, HB.out⟩
          | true =>
            have hall2 : Hid ((ls ++ [x]).all nameP = true) := by show _ = _; rw [List.all_append, hall.out, hxl]; simp [hx, hd]
            have hpc2 : Hid ((s.size + 1 ≤ s.size → pieces p = (ls ++ [x]) ++ pieces (p.drop (s.size + 1)) ∧ NoSlash p (s.size + 1) (s.size + 1)) ∧ (s.size + 1 = s.size + 1 → pieces p = ls ++ [x])) := by
              rw [hxl]
              exact ⟨fun h => by omega, fun _ => by rw [hpc1, hps]⟩
            rw [hd] at CR
            have hal : Below wr.heap.size wr (wr.alloc (.cells #[.string (s.extract a s.size)] 9)) := (Below.refl _ _).alloc (Nat.le_refl _) _
            have HO := Lib.hid (hown.out.kept hal)
            have HS0 := strs_one wr (s.extract a s.size)
            rw [hxe] at HS0
            have HS := Lib.hid HS0
            clear HS0 hxe
            have HBA := Lib.hid (hb.trans (hal.mono hb.size))
            have hbs := hb.size
            have hln : Hid ((ls ++ [x]).length ≤ s.size + 1) := by show _ ≤ _; rw [List.length_append]; simp; omega
            have hle : Hid (ls.length + [x].length ≤ 1000000) := by show _ ≤ _; simp; omega
            clear hpc hpc1 hno hall hps hx hd hxl hal hown
            go_wp2_with fail
            refine CR.out.mono ?_
            rintro e w1 ⟨rfl, rfl⟩
            go_wp2_with (at_builtin; refine wpList_append_strs rfl _ _ rfl w.heap.size _ ls [x] rfl HO.out (some ⟨wr.heap.size, 0, none⟩) 1 1 rfl rfl (fun h => by cases h) HS.out (by simp; omega) hle.out ?_)
            intro v4 w4 ho4 hg4
            have HB4 := Lib.hid (below_append HBA.out HO.out hg4 (Nat.le_refl _))
            have HO4 := Lib.hid ho4
            clear ho4 hg4 HO HS HBA CR
            go_wp2
            go_roundw
            case rel => exact ⟨s.size + 1, s.size + 1, ls ++ [x], by go_num, by go_num, by omega, by omega, Nat.le_refl _, hln.out, hall2.out, (by first | exact hpc2.out | exact ⟨hpc2.out.1, fun _ => hpc2.out.2 trivial⟩), HO4.out, HB4.out⟩
            case measure => simp [intOf] <;> omega
      · obtain rfl : i = s.size + 1 := by omega
        have hp := hpc.out.2 rfl
        have hpl : p.length ≤ 200 := by rw [HN.out]; exact hl
        by_cases h16 : 16 < ls.length
        · have hfin : Hid (names nameP p = []) := by
            show _ = _
            unfold names
            rw [if_neg]
            rintro ⟨_, _, h⟩
            rw [hp] at h
            omega
          obtain ⟨A5, cap5, rfl, _, _, _⟩ := hown.out.strs
          clear hpc hp hall hown
          go_wp2
          go_ret
          rw [hfin.out]
          exact ⟨_, rfl, OwnS.nil _ _, hb⟩
        · have hfin : Hid (names nameP p = ls) := by
            show _ = _
            unfold names
            rw [if_pos ⟨hpl, by rw [hp]; exact hall.out, by rw [hp]; omega⟩, hp]
          obtain ⟨A5, cap5, rfl, _, _, _⟩ := hown.out.strs
          have HO := Lib.hid hown.out
          clear hpc hp hall hown
          go_wp2
          go_ret
          rw [hfin.out]
          exact ⟨_, rfl, HO.out, hb⟩

/-- Names, where some draws and new blocks lie ahead. -/
theorem refpright_any (s : ByteArray) (w : World) (hs : s.size ≤ 9223372036854775807) :
    Calls Tryz.prog 63 #[.string s] w fun e w' => e = .returned (.bool (decide (names nameP s.data.toList ≠ []))) ∧ Below w.heap.size w w' := by
  obtain ⟨d, hd⟩ : ∃ d, d = decide (names nameP s.data.toList ≠ []) := ⟨_, rfl⟩
  rw [← hd]
  have HD := Lib.hid hd
  have C := Lib.hid (refnames_any s w hs)
  clear hd
  go_enter Tryz.func63, Tryz.ntmps63
  go_wp2_with fail
  refine C.out.mono ?_
  rintro e w1 ⟨v, rfl, ho, hb⟩
  obtain ⟨A, cap, rfl, _, _, _⟩ := ho.strs
  have hfin : Hid (d = decide (0 < (names nameP s.data.toList).length)) := by
    show _ = _
    rw [HD.out]
    exact decide_eq_decide.2 List.length_pos_iff.symm
  clear ho C
  generalize (names nameP s.data.toList).length = n at *
  go_wp2
  go_ret
  rw [hfin.out]
  exact ⟨by simp, hb⟩
end Go.Proofs.YtalabahjfmcnbaaGreatDoor
namespace Go.Proofs.YtalabahjfmcnbaaGreatDoor
open Go.RowKit
set_option linter.unusedVariables false

theorem rsame_l (A A2 : Option Addr) (la lc : List (List UInt8)) (cap cap2 : Nat) (w : World) (d : Bool) (hd : decide (la = lc) = d) (hs : Strs w w.heap.size A (toBs la)) (ht : Strs w w.heap.size A2 (toBs lc)) (hn : la.length ≤ 1000000) (hn2 : lc.length ≤ 1000000) :
    Calls Tryz.prog 23 #[.slice A la.length cap, .slice A2 lc.length cap2] w fun e w' => e = .returned (.bool d) ∧ ∃ m, w' = w.drewN m := by
  have h := same_q A A2 (toBs la) (toBs lc) cap cap2 w hs ht (by rw [toBs_len]; omega) (by rw [toBs_len]; omega)
  rw [toBs_len, toBs_len, show decide (toBs la = toBs lc) = d from by
    rw [← hd]
    congr 1
    refine propext ⟨fun h => ?_, fun h => by rw [h]⟩
    have := congrArg lists h
    rwa [lists_toBs, lists_toBs] at this] at h
  exact h
theorem rsame_d (A A2 : Option Addr) (la lc : List (List UInt8)) (cap cap2 : Nat) (w : World) (d : Bool) (hd : decide (la = lc) = d) (hs : Strs w w.heap.size A (toBs la)) (ht : Strs w w.heap.size A2 (toBs lc)) (hn : la.length ≤ 1000000) (hn2 : lc.length ≤ 1000000) (n : Nat) :
    Calls Tryz.prog 23 #[.slice A la.length cap, .slice A2 lc.length cap2] (w.drewN n) fun e w' => e = .returned (.bool d) ∧ ∃ m, w' = w.drewN m :=
  Calls.quiet_of (rsame_l A A2 la lc cap cap2 (w.drewN n) d hd hs ht hn hn2)
theorem refbegins_any (A A2 : Option Addr) (la lc : List (List UInt8)) (cap cap2 : Nat) (w : World) (hs : Strs w w.heap.size A (toBs la)) (ht : Strs w w.heap.size A2 (toBs lc)) (hr : Room A la.length cap) (hn : la.length ≤ 1000000) (hn2 : lc.length ≤ 1000000) :
    Calls Tryz.prog 111 #[.slice A la.length cap, .slice A2 lc.length cap2] w fun e w' => e = .returned (.bool (beginsP la lc)) ∧ ∃ m, w' = w.drewN m := by
  by_cases hl : lc.length ≤ la.length
  · obtain ⟨A', cap', ld, e1, p1, r1⟩ := part_of A la cap 0 lc.length hr (Nat.zero_le _) hl
    have hld : ld.length = lc.length := by rw [e1, List.length_take, List.length_drop]; omega
    have hd : decide (ld = lc) = beginsP la lc := by
      rw [e1, List.drop_zero, Nat.sub_zero]
      unfold beginsP
      rw [decide_eq_true hl, Bool.true_and]
    have C0 := rsame_l A' A2 ld lc cap' cap2 w _ hd (p1.strs _ _ hs) ht (by omega) hn2
    rw [hld] at C0
    have C := Lib.hid C0
    have r2 : ∀ w, (Instr.slice 31 (.slice A la.length cap) none (some (.int .i64 (lc.length : Int))) none).run Tryz.prog w = .ok (.slice A' lc.length cap') w := by
      intro w
      have := r1 none (some (.int .i64 (lc.length : Int))) w (.inr ⟨rfl, rfl⟩) (.inl rfl)
      rwa [hld] at this
    have q1 : ¬ (la.length : Int) < (lc.length : Int) := by omega
    generalize beginsP la lc = d at *
    clear C0 r1 e1 p1 hd hld hs ht hr
    go_enter Tryz.func111, Tryz.ntmps111
    go_wp2_with fail
    refine C.out.mono ?_
    rintro e w1 ⟨rfl, q, rfl⟩
    go_wp2
    go_ret
    exact ⟨rfl, q, rfl⟩
  · have hd : Hid (beginsP la lc = false) := by
      show _ = _
      unfold beginsP
      rw [decide_eq_false hl, Bool.false_and]
    have q1 : (la.length : Int) < (lc.length : Int) := by omega
    clear hs ht hr
    go_enter Tryz.func111, Tryz.ntmps111
    go_wp2
    go_ret
    rw [hd.out]
    exact ⟨rfl, 0, rfl⟩
end Go.Proofs.YtalabahjfmcnbaaGreatDoor
namespace Go.Proofs.YtalabahjfmcnbaaGreatDoor
set_option linter.unusedVariables false

theorem decode_rune (s : ByteArray) (i : Nat) : (Utf8.decode s i).1 ≤ 2097151 := by
  unfold Utf8.decode
  dsimp only
  have h : ∀ k, (s.get! (i + k)).toNat < 256 := fun k => UInt8.toNat_lt _
  have h0 := h 0
  rw [Nat.add_zero] at h0
  have h1 := h 1
  have h2 := h 2
  have h3 := h 3
  repeat' split
  all_goals simp [Utf8.runeError]
  all_goals omega
end Go.Proofs.YtalabahjfmcnbaaGreatDoor
namespace Go.Proofs.YtalabahjfmcnbaaGreatDoor
open Go.RowKit
set_option linter.unusedVariables false

theorem decode_tail (s : ByteArray) (i : Nat) (h : i < s.size) (w : World) (hT : Tabs w) :
    Calls Tryz.prog 142 #[.string (s.extract i s.size)] w fun e w' => e = .returned (.tuple #[.int .i32 (Utf8.decode s i).1, .int .i64 (Utf8.decode s i).2]) ∧ Below w.heap.size w w' := by
  have h1 := Tryz.utf8_DecodeRuneInString (s.extract i s.size) w hT
  rw [decodeGo_tail s i h] at h1
  exact h1

set_option maxRecDepth 100000 in
theorem refline_any (s : ByteArray) (w : World) (hs : s.size ≤ 9223372036854775807) (hT : Tabs w) :
    Calls Tryz.prog 101 #[.string s] w fun e w' => e = .returned (.bool (lineB s)) ∧ Below w.heap.size w w' := by
  by_cases h2 : 200 < s.size
  · have hr : lineB s = false := by simp [lineB]; omega
    rw [hr]
    go_enter Tryz.func101, Tryz.ntmps101
    go_wp2
    go_ret
    exact ⟨rfl, Below.refl _ _⟩
  · have hr : Hid (lineB s = runes s 0) := by show _ = _; simp [lineB]; omega
    have HT := Lib.hid hT
    clear hT
    go_enter Tryz.func101, Tryz.ntmps101
    go_wp2
    go_loopw [3] (fun i wr => ∃ k : Nat, k ≤ s.size + 4 ∧ i = .int .i64 (k : Int) ∧ Hid (runes s 0 = runes s k) ∧ Below w.heap.size w wr) (fun i _ => s.size - (intOf i).toNat)
    case atStart => exact ⟨0, Nat.zero_le _, rfl, rfl, Below.refl _ _⟩
    case round =>
      obtain ⟨k, hk, rfl, heq, hb⟩ := hrel
      by_cases hlt : k < s.size
      · have hc := Lib.hid (decode_tail s k hlt wr (HT.out.on hb))
        have hp := decode_pos s k
        have hp2 := decode_le s k
        have hp3 := decode_rune s k
        have hg := runes_good (s := s) (i := k) hlt
        have hbad := runes_bad (s := s) (i := k) hlt
        obtain ⟨r, n, hd⟩ : ∃ r n, Utf8.decode s k = (r, n) := ⟨_, _, rfl⟩
        rw [hd] at hc hp hp2 hp3 hg hbad
        simp only at hc hp hp2 hp3 hg
        clear hd
        cases hbr : badRune (r, n) with
        | true =>
          have hno : Hid (lineB s = false) := by show _ = _; rw [hr.out, heq.out]; exact hbad hbr
          clear hg hbad heq hr
          have hbc : (r = 65533 ∧ n = 1) ∨ (r < 32 ∧ r ≠ 9) := by simpa [badRune] using hbr
          clear hbr
          rcases hbc with ⟨rfl, rfl⟩ | ⟨b1, b2⟩
          · go_wp2_with (go_at_call 142; refine hc.out.mono ?_; rintro e w1 ⟨rfl, hb1⟩)
            go_ret
            rw [hno.out]
            exact ⟨rfl, hb.trans (hb1.mono hb.size)⟩
          · have q1 : ((r : Int) == 65533) = false := by rw [beq_eq_false_iff_ne]; omega
            have q2 : (r : Int) < 32 := by omega
            have q3 : ((r : Int) != 9) = true := by simp; omega
            go_wp2_with (go_at_call 142; refine hc.out.mono ?_; rintro e w1 ⟨rfl, hb1⟩)
            go_ret
            rw [hno.out]
            exact ⟨rfl, hb.trans (hb1.mono hb.size)⟩
        | false =>
          have hok : Hid (runes s 0 = runes s (k + n)) := by show _ = _; rw [heq.out]; exact hg hbr
          clear hg hbad heq
          have hgc : ¬ (r = 65533 ∧ n = 1) ∧ ¬ (r < 32 ∧ r ≠ 9) := by
            have := hbr
            simp [badRune] at this
            omega
          clear hbr
          obtain ⟨g1, g2⟩ := hgc
          by_cases e1 : r = 65533
          · subst e1
            have q2 : ((n : Int) == 1) = false := by rw [beq_eq_false_iff_ne]; omega
            go_wp2_with (go_at_call 142; refine hc.out.mono ?_; rintro e w1 ⟨rfl, hb1⟩)
            have hb2 := hb.trans (hb1.mono hb.size)
            go_roundw
            case rel => exact ⟨k + n, by omega, by go_num, hok, hb2⟩
            case measure => simp [intOf]; omega
          · have q1 : ((r : Int) == 65533) = false := by rw [beq_eq_false_iff_ne]; omega
            by_cases e2 : r = 9
            · subst e2
              go_wp2_with (go_at_call 142; refine hc.out.mono ?_; rintro e w1 ⟨rfl, hb1⟩)
              have hb2 := hb.trans (hb1.mono hb.size)
              go_roundw
              case rel => exact ⟨k + n, by omega, by go_num, hok, hb2⟩
              case measure => simp [intOf]; omega
            · have q2 : ¬ (r : Int) < 32 := by omega
              go_wp2_with (go_at_call 142; refine hc.out.mono ?_; rintro e w1 ⟨rfl, hb1⟩)
              have hb2 := hb.trans (hb1.mono hb.size)
              go_roundw
              case rel => exact ⟨k + n, by omega, by go_num, hok, hb2⟩
              case measure => simp [intOf]; omega
      · have hfin : Hid (lineB s = true) := by show _ = _; rw [hr.out, heq.out]; exact runes_end hlt
        clear heq hr
        go_wp2
        go_ret
        rw [hfin.out]
        exact ⟨rfl, hb⟩

set_option maxRecDepth 100000 in
theorem refcheck_any (A : Option Addr) (ss : List ByteArray) (cap : Nat) (w : World) (hs : Strs w w.heap.size A ss) (hn : ss.length ≤ 9223372036854775807) (hz : ∀ s ∈ ss, s.size ≤ 9223372036854775807) (hT : Tabs w) :
    Calls Tryz.prog 64 #[.slice A ss.length cap] w fun e w' => e = .returned (.int .i64 (checkN ss)) ∧ Below w.heap.size w w' := by
  by_cases h2 : 2000 < ss.length
  · rw [checkN_big h2]
    go_enter Tryz.func64, Tryz.ntmps64
    go_wp2
    go_ret
    exact ⟨rfl, Below.refl _ _⟩
  · have HT := Lib.hid hT
    have HS := Lib.hid hs
    have HZ := Lib.hid hz
    clear hT hs hz
    go_enter Tryz.func64, Tryz.ntmps64
    go_wp2
    go_loopw [3] (fun i wr => ∃ k : Nat, k ≤ ss.length ∧ i = .int .i64 (k : Int) ∧ Hid (∀ j (hj : j < ss.length), j < k → lineB ss[j] = true) ∧ Below w.heap.size w wr) (fun i _ => ss.length - (intOf i).toNat)
    case atStart => exact ⟨0, Nat.zero_le _, rfl, fun j _ h => absurd h (by omega), Below.refl _ _⟩
    case round =>
      obtain ⟨k, hk, rfl, hall, hb⟩ := hrel
      by_cases hlt : k < ss.length
      · obtain ⟨g, off, rfl, hg, hc⟩ := (HS.out.below hb).at_ hlt
        have hl := Lib.hid (refline_any ss[k] wr (HZ.out _ (List.getElem_mem _)) (HT.out.on hb))
        cases hx : lineB ss[k] with
        | true =>
          have hall2 : Hid (∀ j (hj : j < ss.length), j < k + 1 → lineB ss[j] = true) := by
            intro j hj hjk
            by_cases h : j = k
            · subst h; exact hx
            · exact hall.out j hj (by omega)
          rw [hx] at hl
          generalize ss[k] = s at *
          clear hall hx
          go_wp2_with (go_at_call 101; refine hl.out.mono ?_; rintro e w1 ⟨rfl, hb1⟩)
          have hb2 := hb.trans (hb1.mono hb.size)
          go_roundw
          case rel => exact ⟨k + 1, by omega, by go_num, hall2, hb2⟩
          case measure => simp [intOf]; omega
        | false =>
          have hno : Hid (checkN ss = 6) := checkN_bad h2 hlt hx
          rw [hx] at hl
          generalize ss[k] = s at *
          clear hall hx
          go_wp2_with (go_at_call 101; refine hl.out.mono ?_; rintro e w1 ⟨rfl, hb1⟩)
          go_ret
          rw [hno.out]
          exact ⟨rfl, hb.trans (hb1.mono hb.size)⟩
      · have hk2 : k = ss.length := by omega
        subst hk2
        have hyes : Hid (checkN ss = 0) := checkN_ok h2 fun j hj => hall.out j hj hj
        clear hall
        go_wp2
        go_ret
        rw [hyes.out]
        exact ⟨rfl, hb⟩

end Go.Proofs.YtalabahjfmcnbaaGreatDoor
