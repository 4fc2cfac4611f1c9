/- The reference's Same: are two lists of texts the same? The reference's Names, Right, Join, Begins, Less of layer 5. Lines, plainly: which texts are lines; the text of lines; the lines of a text; where lines stand. What a step says, and what is wrong with it. Pairs of steps, plainly: what they touch, whether they are apart, the other way round. What two steps become, plainly; from the left on. The reference's way to make one hunk of two, line by line, plainly. -/
import Derived.Test.YtempamboacbgiaaDoorCk01
import Derived.BigQuiet
import Derived.Deep.QuietTactic
import Derived.Handy
import Derived.Shelf.Spec.BytesIndexFunc
namespace Go.Proofs.YtempamboacbgiaaDoor
open Go.RowKit
set_option linter.unusedVariables false


set_option maxRecDepth 100000 in
theorem same_q (A A2 : Option Addr) (ss tt : List ByteArray) (cap cap2 : Nat) (w : World) (hs : Strs w w.heap.size A ss) (ht : Strs w w.heap.size A2 tt)
    (hn : ss.length ≤ 140737488351232) (hn2 : tt.length ≤ 140737488351232) :
    Calls Tryd.prog 25 #[.slice A ss.length cap, .slice A2 tt.length cap2] w fun e w' => e = .returned (.bool (decide (ss = tt))) ∧ ∃ q, w' = w.drewN q := by
  by_cases hl : ss.length = tt.length
  · have Hl := Lib.hid hl
    have hb1 : (((ss.length : Int)) != (tt.length : Int)) = false := by simp; omega
    clear hl
    go_enter Tryd.func25, Tryd.ntmps25
    go_wp2
    go_loopw [5] (fun i wr => ∃ k : Nat, k ≤ ss.length ∧ i = .int .i64 (k : Int) ∧ Hid (∀ j (hj : j < ss.length) (hj2 : j < tt.length), j < k → ss[j] = tt[j]) ∧ ∃ q, wr = w.drewN q) (fun i _ => ss.length - (intOf i).toNat)
    case atStart => exact ⟨0, Nat.zero_le _, rfl, fun j _ _ h => absurd h (by omega), 0, rfl⟩
    case round =>
      obtain ⟨k, hk, rfl, hall, q, rfl⟩ := hrel
      by_cases hlt : k < ss.length
      · have hlt2 : k < tt.length := by have := Hl.out; omega
        obtain ⟨g, off, rfl, hg, hc⟩ := hs.at_ hlt
        obtain ⟨g2, off2, rfl, hg2, hc2⟩ := ht.at_ hlt2
        by_cases he : ss[k] = tt[k]
        · have hyes : Hid (∀ j (hj : j < ss.length) (hj2 : j < tt.length), j < k + 1 → ss[j] = tt[j]) := by
            intro j hj hj2 hjk
            by_cases hjk2 : j = k
            · subst hjk2; exact he
            · exact hall.out j hj hj2 (by omega)
          rw [← he] at hc2
          generalize ss[k] = s at *
          clear he hall hs ht
          go_wp2
          go_quiet (fail)
          go_wp2
          go_roundw
          case rel => exact ⟨k + 1, by omega, by go_num, hyes, _, rfl⟩
          case measure => simp [intOf]; omega
        · have hno : Hid (decide (ss = tt) = false) := by
            show _ = _
            simp only [decide_eq_false_iff_not]
            intro h
            subst h
            exact he rfl
          have hne : (ss[k].toList == tt[k].toList) = false := by
            rw [beq_eq_false_iff_ne]
            intro h
            exact he (by apply ByteArray.ext; apply Array.ext'; simpa only [toList_eq] using h)
          generalize ss[k] = s at *
          generalize tt[k] = t at *
          clear he hall hs ht
          go_wp2
          go_quiet (fail)
          go_wp2
          go_ret
          rw [hno.out]
          exact ⟨rfl, _, World.drewN_drewN _ _ _⟩
      · have hk2 : k = ss.length := by omega
        subst hk2
        have hyes : Hid (decide (ss = tt) = true) := by
          show _ = _
          rw [decide_eq_true_eq]
          exact List.ext_getElem Hl.out fun j h1 h2 => hall.out j h1 h2 h1
        clear hall
        go_wp2
        go_ret
        rw [hyes.out]
        exact ⟨rfl, q, rfl⟩
  · have hno : Hid (decide (ss = tt) = false) := by
      show _ = _
      simp only [decide_eq_false_iff_not]
      intro h
      subst h
      exact hl rfl
    have hb1 : (((ss.length : Int)) != (tt.length : Int)) = true := by simp; omega
    go_enter Tryd.func25, Tryd.ntmps25
    go_wp2
    go_ret
    rw [hno.out]
    exact ⟨rfl, 0, rfl⟩
end Go.Proofs.YtempamboacbgiaaDoor
namespace Go.Proofs.YtempamboacbgiaaDoor
open Go.RowKit
set_option linter.unusedVariables false

def nameP (l : List UInt8) : Bool := rightB (toB l)
theorem ext_list (s : ByteArray) (a i : Nat) : (s.extract a i).data.toList = (s.data.toList.drop a).take (i - a) := by
  simp [ByteArray.data_extract, List.take_drop]
  try (rw [List.drop_take])
theorem ext_toB (s : ByteArray) (a i : Nat) : s.extract a i = toB ((s.data.toList.drop a).take (i - a)) := by
  rw [← ext_list, toB_of]
theorem byte_get {s : ByteArray} {i : Nat} (h : i < s.size) : s.data.toList[i]? = some s[i] := by
  have : i < s.data.toList.length := by simpa using h
  rw [List.getElem?_eq_getElem this]
  rfl
theorem names_long {p : List UInt8} (h : 200 < p.length) : names nameP p = [] := by
  unfold names
  rw [if_neg]
  rintro ⟨h1, _⟩
  omega

set_option maxHeartbeats 2000000 in
set_option maxRecDepth 100000 in
theorem refnames_any (s : ByteArray) (w : World) (hs : s.size ≤ 9223372036854775807) :
    Calls Tryd.prog 46 #[.string s] w fun e w' => ∃ v, e = .returned v ∧ OwnS w' w.heap.size v (names nameP s.data.toList) ∧ Below w.heap.size w w' := by
  have hsz : s.data.toList.length = s.size := by simp
  by_cases h2 : 200 < s.size
  · have hr : Hid (names nameP s.data.toList = []) := names_long (by omega)
    go_enter Tryd.func46, Tryd.ntmps46
    go_wp2
    go_ret
    rw [hr.out]
    exact ⟨_, rfl, OwnS.nil _ _, Below.refl _ _⟩
  · obtain ⟨p, hp⟩ : ∃ p, s.data.toList = p := ⟨_, rfl⟩
    rw [hp] at hsz ⊢
    have HP := Lib.hid hp
    have HN := Lib.hid hsz
    have hl : s.size ≤ 200 := by omega
    clear hp hsz h2
    go_enter Tryd.func46, Tryd.ntmps46
    go_wp2
    go_loopw [3, 4, 5] (fun v av iv wr => ∃ (a i : Nat) (ls : List (List UInt8)), av = .int .i64 (a : Int) ∧ iv = .int .i64 (i : Int) ∧ a ≤ s.size + 1 ∧ i ≤ s.size + 1 ∧ a ≤ i ∧ ls.length ≤ i ∧ Hid (ls.all nameP = true) ∧ Hid ((i ≤ s.size → pieces p = ls ++ pieces (p.drop a) ∧ NoSlash p a i) ∧ (i = s.size + 1 → pieces p = ls)) ∧
        Hid (OwnS wr w.heap.size v ls) ∧ Below w.heap.size w wr) (fun _ _ iv _ => s.size + 1 - (intOf iv).toNat)
    case atStart => exact ⟨0, 0, [], rfl, rfl, by omega, by omega, Nat.le_refl _, Nat.le_refl _, rfl, ⟨fun _ => ⟨rfl, NoSlash.none _ _⟩, fun h => by omega⟩, OwnS.nil _ _, Below.refl _ _⟩
    case round =>
      obtain ⟨a, i, ls, rfl, rfl, ha, hi, hai, hli, hall, hpc, hown, hb⟩ := hrel
      by_cases hend : i ≤ s.size
      · obtain ⟨hpc1, hno⟩ := hpc.out.1 hend
        have q1 : (i : Int) ≤ (s.size : Int) := by omega
        have q2 : (a : Int) ≤ (i : Int) := by omega
        have q3 : (0 : Int) ≤ (a : Int) := by omega
        by_cases hlt : i < s.size
        · have hbt := byte_get hlt
          rw [HP.out] at hbt
          by_cases h47 : s[i] = 47
          · have w1 : ((s[i].toNat : Int) != 47) = false := by rw [h47]; rfl
            have hps := pieces_at hai (by rw [HN.out]; exact hlt) hno (by rw [hbt, h47])
            have hx : nameP ((p.drop a).take (i - a)) = rightB (s.extract a i) := by unfold nameP; rw [ext_toB, HP.out]
            obtain ⟨x, hxe⟩ : ∃ x, (s.extract a i).data.toList = x := ⟨_, rfl⟩
            have hxl : x = ((p.drop a).take (i - a)) := by rw [← hxe, ext_list, HP.out]
            have CR := Lib.hid (refright_any (s.extract a i) wr (by rw [ByteArray.size_extract]; omega))
            cases hd : rightB (s.extract a i) with
            | false =>
              have hfin : Hid (names nameP p = []) := names_no (l := ls) (x := ((p.drop a).take (i - a))) (r := pieces (p.drop (i + 1))) (by rw [hpc1, hps]) (by rw [hx, hd])
              rw [hd] at CR
              have HB := Lib.hid hb
              clear hpc hpc1 hno hall hps hx hd hxl hxe hb hown HP HN hbt h47
              go_wp2_with fail
              refine CR.out.mono ?_
              rintro e w1 ⟨rfl, rfl⟩
              go_wp2
              go_ret
              rw [hfin.out]
              exact ⟨_, rfl, OwnS.nil _ _, HB.out⟩
            | true =>
              have hall2 : Hid ((ls ++ [x]).all nameP = true) := by show _ = _; rw [List.all_append, hall.out, hxl]; simp [hx, hd]
              have hpc2 : Hid ((i + 1 ≤ s.size → pieces p = (ls ++ [x]) ++ pieces (p.drop (i + 1)) ∧ NoSlash p (i + 1) (i + 1)) ∧ (i + 1 = s.size + 1 → pieces p = ls ++ [x])) := by
                rw [hxl]
                exact ⟨fun _ => ⟨by rw [hpc1, hps, List.append_assoc]; rfl, NoSlash.none _ _⟩, fun h => by omega⟩
              rw [hd] at CR
              have hal : Below wr.heap.size wr (wr.alloc (.cells #[.string (s.extract a i)] 9)) := (Below.refl _ _).alloc (Nat.le_refl _) _
              have HO := Lib.hid (hown.out.kept hal)
              have HS0 := strs_one wr (s.extract a i)
              rw [hxe] at HS0
              have HS := Lib.hid HS0
              clear HS0 hxe
              have HBA := Lib.hid (hb.trans (hal.mono hb.size))
              have hbs := hb.size
              have hln : Hid ((ls ++ [x]).length ≤ i + 1) := by show _ ≤ _; rw [List.length_append]; simp; omega
              have hle : Hid (ls.length + [x].length ≤ 1000000) := by show _ ≤ _; simp; omega
              clear hpc hpc1 hno hall hps hx hd hxl hal hown hbt h47
              go_wp2_with fail
              refine CR.out.mono ?_
              rintro e w1 ⟨rfl, rfl⟩
              go_wp2_with (at_builtin; refine wpList_append_strs rfl _ _ rfl w.heap.size _ ls [x] rfl HO.out (some ⟨wr.heap.size, 0, none⟩) 1 1 rfl rfl (fun h => by cases h) HS.out (by simp; omega) hle.out ?_)
              intro v4 w4 ho4 hg4
              have HB4 := Lib.hid (below_append HBA.out HO.out hg4 (Nat.le_refl _))
              have HO4 := Lib.hid ho4
              clear ho4 hg4 HO HS HBA CR
              go_wp2
              go_roundw
              case rel => exact ⟨i + 1, i + 1, ls ++ [x], by go_num, by go_num, by omega, by omega, Nat.le_refl _, hln.out, hall2.out, (by first | exact hpc2.out | exact ⟨hpc2.out.1, fun _ => hpc2.out.2 trivial⟩), HO4.out, HB4.out⟩
              case measure => simp [intOf] <;> omega
          · have w1 : ((s[i].toNat : Int) != 47) = true := by
              rw [bne_iff_ne]
              intro h
              apply h47
              have : s[i].toNat = 47 := by omega
              exact UInt8.toNat_inj.1 (by rw [this]; rfl)
            have hno2 : Hid (NoSlash p a (i + 1)) := hno.more (by rw [hbt]; simpa using h47)
            have hpc2 : Hid ((i + 1 ≤ s.size → pieces p = ls ++ pieces (p.drop a) ∧ NoSlash p a (i + 1)) ∧ (i + 1 = s.size + 1 → pieces p = ls)) := ⟨fun _ => ⟨hpc1, hno2.out⟩, fun h => by omega⟩
            clear hpc hpc1 hno hno2 hbt h47
            go_wp2
            go_roundw
            case rel => exact ⟨a, i + 1, ls, rfl, by go_num, by omega, by omega, by omega, by omega, hall.out, hpc2.out, hown.out, hb⟩
            case measure => simp [intOf] <;> omega
        · obtain rfl : i = s.size := by omega
          have hps : pieces (p.drop a) = [(p.drop a).take (s.size - a)] := by
            have h1 := pieces_last (p := p) (a := a) (by rw [HN.out]; exact hno)
            rw [h1, List.take_of_length_le (by rw [List.length_drop, HN.out]; omega)]
          have hx : nameP ((p.drop a).take (s.size - a)) = rightB (s.extract a s.size) := by unfold nameP; rw [ext_toB, HP.out]
          obtain ⟨x, hxe⟩ : ∃ x, (s.extract a s.size).data.toList = x := ⟨_, rfl⟩
          have hxl : x = ((p.drop a).take (s.size - a)) := by rw [← hxe, ext_list, HP.out]
          have CR := Lib.hid (refright_any (s.extract a s.size) wr (by rw [ByteArray.size_extract]; omega))
          cases hd : rightB (s.extract a s.size) with
          | false =>
            have hfin : Hid (names nameP p = []) := names_no (l := ls) (x := ((p.drop a).take (s.size - a))) (r := []) (by rw [hpc1, hps]) (by rw [hx, hd])
            rw [hd] at CR
            have HB := Lib.hid hb
            clear hpc hpc1 hno hall hps hx hd hxl hxe hb hown HP HN
            go_wp2_with fail
            refine CR.out.mono ?_
            rintro e w1 ⟨rfl, rfl⟩
            go_wp2
            go_ret
            rw [hfin.out]
            exact ⟨_, rfl, OwnS.nil _ _, HB.out⟩
          | true =>
            have hall2 : Hid ((ls ++ [x]).all nameP = true) := by show _ = _; rw [List.all_append, hall.out, hxl]; simp [hx, hd]
            have hpc2 : Hid ((s.size + 1 ≤ s.size → pieces p = (ls ++ [x]) ++ pieces (p.drop (s.size + 1)) ∧ NoSlash p (s.size + 1) (s.size + 1)) ∧ (s.size + 1 = s.size + 1 → pieces p = ls ++ [x])) := by
              rw [hxl]
              exact ⟨fun h => by omega, fun _ => by rw [hpc1, hps]⟩
            rw [hd] at CR
            have hal : Below wr.heap.size wr (wr.alloc (.cells #[.string (s.extract a s.size)] 9)) := (Below.refl _ _).alloc (Nat.le_refl _) _
            have HO := Lib.hid (hown.out.kept hal)
            have HS0 := strs_one wr (s.extract a s.size)
            rw [hxe] at HS0
            have HS := Lib.hid HS0
            clear HS0 hxe
            have HBA := Lib.hid (hb.trans (hal.mono hb.size))
            have hbs := hb.size
            have hln : Hid ((ls ++ [x]).length ≤ s.size + 1) := by show _ ≤ _; rw [List.length_append]; simp; omega
            have hle : Hid (ls.length + [x].length ≤ 1000000) := by show _ ≤ _; simp; omega
            clear hpc hpc1 hno hall hps hx hd hxl hal hown
            go_wp2_with fail
            refine CR.out.mono ?_
            rintro e w1 ⟨rfl, rfl⟩
            go_wp2_with (at_builtin; refine wpList_append_strs rfl _ _ rfl w.heap.size _ ls [x] rfl HO.out (some ⟨wr.heap.size, 0, none⟩) 1 1 rfl rfl (fun h => by cases h) HS.out (by simp; omega) hle.out ?_)
            intro v4 w4 ho4 hg4
            have HB4 := Lib.hid (below_append HBA.out HO.out hg4 (Nat.le_refl _))
            have HO4 := Lib.hid ho4
            clear ho4 hg4 HO HS HBA CR
            go_wp2
            go_roundw
            case rel => exact ⟨s.size + 1, s.size + 1, ls ++ [x], by go_num, by go_num, by omega, by omega, Nat.le_refl _, hln.out, hall2.out, (by first | exact hpc2.out | exact ⟨hpc2.out.1, fun _ => hpc2.out.2 trivial⟩), HO4.out, HB4.out⟩
            case measure => simp [intOf] <;> omega
      · obtain rfl : i = s.size + 1 := by omega
        have hp := hpc.out.2 rfl
        have hpl : p.length ≤ 200 := by rw [HN.out]; exact hl
        by_cases h16 : 16 < ls.length
        · have hfin : Hid (names nameP p = []) := by
            show _ = _
            unfold names
            rw [if_neg]
            rintro ⟨_, _, h⟩
            rw [hp] at h
            omega
          obtain ⟨A5, cap5, rfl, _, _, _⟩ := hown.out.strs
          clear hpc hp hall hown
          go_wp2
          go_ret
          rw [hfin.out]
          exact ⟨_, rfl, OwnS.nil _ _, hb⟩
        · have hfin : Hid (names nameP p = ls) := by
            show _ = _
            unfold names
            rw [if_pos ⟨hpl, by rw [hp]; exact hall.out, by rw [hp]; omega⟩, hp]
          obtain ⟨A5, cap5, rfl, _, _, _⟩ := hown.out.strs
          have HO := Lib.hid hown.out
          clear hpc hp hall hown
          go_wp2
          go_ret
          rw [hfin.out]
          exact ⟨_, rfl, HO.out, hb⟩

/-- Names, where some draws and new blocks lie ahead. -/
theorem refpright_any (s : ByteArray) (w : World) (hs : s.size ≤ 9223372036854775807) :
    Calls Tryd.prog 37 #[.string s] w fun e w' => e = .returned (.bool (decide (names nameP s.data.toList ≠ []))) ∧ Below w.heap.size w w' := by
  obtain ⟨d, hd⟩ : ∃ d, d = decide (names nameP s.data.toList ≠ []) := ⟨_, rfl⟩
  rw [← hd]
  have HD := Lib.hid hd
  have C := Lib.hid (refnames_any s w hs)
  clear hd
  go_enter Tryd.func37, Tryd.ntmps37
  go_wp2_with fail
  refine C.out.mono ?_
  rintro e w1 ⟨v, rfl, ho, hb⟩
  obtain ⟨A, cap, rfl, _, _, _⟩ := ho.strs
  have hfin : Hid (d = decide (0 < (names nameP s.data.toList).length)) := by
    show _ = _
    rw [HD.out]
    exact decide_eq_decide.2 List.length_pos_iff.symm
  clear ho C
  generalize (names nameP s.data.toList).length = n at *
  go_wp2
  go_ret
  rw [hfin.out]
  exact ⟨by simp, hb⟩
end Go.Proofs.YtempamboacbgiaaDoor
namespace Go.Proofs.YtempamboacbgiaaDoor
set_option linter.unusedVariables false

/-- A rune that no line has (r, of n bytes). -/
def badRune (x : Nat × Nat) : Bool := (x.1 == 65533 && x.2 == 1) || (decide (x.1 < 32) && !(x.1 == 9))
def runesOk (s : ByteArray) : Nat → Nat → Bool
  | 0, _ => true
  | f + 1, i => if i < s.size then (if badRune (Utf8.decode s i) then false else runesOk s f (i + (Utf8.decode s i).2)) else true
/-- Are the runes from byte i on a line's? -/
def runes (s : ByteArray) (i : Nat) : Bool := runesOk s (s.size - i) i
theorem decode_pos (s : ByteArray) (i : Nat) : 1 ≤ (Utf8.decode s i).2 := by
  unfold Utf8.decode
  dsimp only
  repeat' split
  all_goals simp
theorem decode_le (s : ByteArray) (i : Nat) : (Utf8.decode s i).2 ≤ 4 := by
  unfold Utf8.decode
  dsimp only
  repeat' split
  all_goals simp
theorem decode_rune (s : ByteArray) (i : Nat) : (Utf8.decode s i).1 ≤ 2097151 := by
  unfold Utf8.decode
  dsimp only
  have h : ∀ k, (s.get! (i + k)).toNat < 256 := fun k => UInt8.toNat_lt _
  have h0 := h 0
  rw [Nat.add_zero] at h0
  have h1 := h 1
  have h2 := h 2
  have h3 := h 3
  repeat' split
  all_goals simp [Utf8.runeError]
  all_goals omega
theorem runesOk_fuel (s : ByteArray) : ∀ (f g i : Nat), s.size - i ≤ f → s.size - i ≤ g → runesOk s f i = runesOk s g i
  | 0, 0, _, _, _ => rfl
  | 0, g + 1, i, hf, _ => by simp [runesOk, show ¬ i < s.size by omega]
  | f + 1, 0, i, _, hg => by simp [runesOk, show ¬ i < s.size by omega]
  | f + 1, g + 1, i, hf, hg => by
    unfold runesOk
    by_cases h : i < s.size
    · have hp := decode_pos s i
      rw [if_pos h, if_pos h, runesOk_fuel s f g _ (by omega) (by omega)]
    · rw [if_neg h, if_neg h]
theorem runes_end {s : ByteArray} {i : Nat} (h : ¬ i < s.size) : runes s i = true := by
  unfold runes
  rw [show s.size - i = 0 by omega]; rfl
theorem runes_bad {s : ByteArray} {i : Nat} (h : i < s.size) (hb : badRune (Utf8.decode s i) = true) : runes s i = false := by
  unfold runes
  obtain ⟨f, hf⟩ : ∃ f, s.size - i = f + 1 := ⟨s.size - i - 1, by omega⟩
  rw [hf]
  unfold runesOk
  rw [if_pos h, if_pos hb]
theorem runes_good {s : ByteArray} {i : Nat} (h : i < s.size) (hb : badRune (Utf8.decode s i) = false) : runes s i = runes s (i + (Utf8.decode s i).2) := by
  have hp := decode_pos s i
  have e : runes s i = runesOk s ((s.size - i - 1) + 1) i := by unfold runes; congr 1; omega
  rw [e]
  unfold runesOk
  rw [if_pos h, if_neg (by rw [hb]; simp)]
  exact runesOk_fuel s _ _ _ (by omega) (by omega)
/-- Is a text a line? -/
def lineB (s : ByteArray) : Bool := decide (s.size ≤ 200) && runes s 0
/-- The error of lines that may not be a file's: 4, too many; 6, one is none; 0. -/
def checkN (ss : List ByteArray) : Int := if 2000 < ss.length then 4 else if ss.all lineB then 0 else 6
theorem checkN_big {ss : List ByteArray} (h : 2000 < ss.length) : checkN ss = 4 := by simp [checkN, h]
theorem checkN_bad {ss : List ByteArray} {k : Nat} (hn : ¬ 2000 < ss.length) (hk : k < ss.length) (h : lineB ss[k] = false) : checkN ss = 6 := by
  have : ss.all lineB = false := by
    rw [List.all_eq_false]
    exact ⟨ss[k], List.getElem_mem _, by rw [h]; simp⟩
  simp [checkN, hn, this]
theorem checkN_ok {ss : List ByteArray} (hn : ¬ 2000 < ss.length) (h : ∀ k (hk : k < ss.length), lineB ss[k] = true) : checkN ss = 0 := by
  have : ss.all lineB = true := by
    rw [List.all_eq_true]
    intro s hs
    obtain ⟨k, hk, rfl⟩ := List.getElem_of_mem hs
    exact h k hk
  simp [checkN, hn, this]
end Go.Proofs.YtempamboacbgiaaDoor
namespace Go.Proofs.YtempamboacbgiaaDoor
open Go.RowKit
set_option linter.unusedVariables false

/-- Lines that are not far too long. -/
def LightK (ls : List (List UInt8)) : Prop := ls.length ≤ 60 ∧ ∀ x ∈ ls, x.length ≤ 300
/-- Lines of which no machine has too many. -/
def WideK (ls : List (List UInt8)) : Prop := ls.length ≤ 100000 ∧ ∀ x ∈ ls, x.length ≤ 100000
/-- Lines that are not far too many, behind others were laid to them. -/
def MidK (ls : List (List UInt8)) : Prop := ls.length ≤ 5000 ∧ ∀ x ∈ ls, x.length ≤ 300
theorem LightK.mid {ls : List (List UInt8)} (h : LightK ls) : MidK ls := ⟨Nat.le_trans h.1 (by decide), h.2⟩
theorem MidK.wide {ls : List (List UInt8)} (h : MidK ls) : WideK ls := ⟨Nat.le_trans h.1 (by decide), fun x hx => Nat.le_trans (h.2 x hx) (by decide)⟩
theorem MidK.nil : MidK [] := ⟨Nat.zero_le _, fun x h => by cases h⟩
theorem LightK.wide {ls : List (List UInt8)} (h : LightK ls) : WideK ls := ⟨Nat.le_trans h.1 (by decide), fun x hx => Nat.le_trans (h.2 x hx) (by decide)⟩
/-- What a step says. -/
structure Pk where
  kind : Int
  path : List UInt8
  dst : List UInt8
  at_ : Int
  old : List (List UInt8)
  new : List (List UInt8)
instance : DecidableEq Pk := fun a b => if h : a.kind = b.kind ∧ a.path = b.path ∧ a.dst = b.dst ∧ a.at_ = b.at_ ∧ a.old = b.old ∧ a.new = b.new then isTrue (by
    cases a; cases b
    simp_all) else isFalse (fun e => h (by subst e; exact ⟨rfl, rfl, rfl, rfl, rfl, rfl⟩))
/-- What is wrong with a step. -/
def ckP (p : Pk) : Int :=
  if p.kind < 1 ∨ 6 < p.kind ∨ (p.kind ≠ 5 ∧ p.dst ≠ []) ∨ (p.kind ≠ 6 ∧ (p.at_ ≠ 0 ∨ 0 < p.old.length + p.new.length)) then 2
  else if names nameP p.path = [] ∨ (p.kind = 5 ∧ (names nameP p.dst = [] ∨ p.path = p.dst)) then 8
  else if p.kind = 6 ∧ (p.at_ < 0 ∨ p.old.length + p.new.length = 0 ∨ checkN (toBs p.old) ≠ 0 ∨ checkN (toBs p.new) ≠ 0) then 6
  else 0
theorem ck_facts {p : Pk} (h : ckP p = 0) : 1 ≤ p.kind ∧ p.kind ≤ 6 ∧ (p.kind ≠ 5 → p.dst = []) ∧ (p.kind ≠ 6 → p.at_ = 0 ∧ p.old = [] ∧ p.new = []) ∧ names nameP p.path ≠ [] ∧ (p.kind = 5 → names nameP p.dst ≠ [] ∧ p.path ≠ p.dst) ∧ (p.kind = 6 → 0 ≤ p.at_ ∧ checkN (toBs p.old) = 0 ∧ checkN (toBs p.new) = 0) := by
  unfold ckP at h
  split at h
  · omega
  rename_i h1
  split at h
  · omega
  rename_i h2
  split at h
  · omega
  rename_i h3
  simp only [not_or, not_and] at h1 h2 h3
  obtain ⟨a1, a2, a3, a4⟩ := h1
  obtain ⟨b1, b2⟩ := h2
  refine ⟨by omega, by omega, fun e => by simpa using a3 e, fun e => ?_, b1, fun e => ?_, fun e => ?_⟩
  · obtain ⟨c1, c2⟩ := a4 e
    exact ⟨by simpa using c1, List.length_eq_zero_iff.1 (by omega), List.length_eq_zero_iff.1 (by omega)⟩
  · exact b2 e
  · obtain ⟨c1, c2, c3, c4⟩ := h3 e
    exact ⟨by omega, by simpa using c3, by simpa using c4⟩
/-- Lines that may be. -/
theorem check_iff {ls : List (List UInt8)} : checkN (toBs ls) = 0 ↔ ls.length ≤ 2000 ∧ ∀ x ∈ ls, lineB (toB x) = true := by
  unfold checkN
  rw [toBs_len]
  by_cases h : 2000 < ls.length
  · rw [if_pos h]
    constructor
    · intro e; omega
    · rintro ⟨h1, _⟩; omega
  · rw [if_neg h]
    have e : (toBs ls).all lineB = ls.all fun x => lineB (toB x) := by
      unfold toBs
      rw [List.all_map]
      rfl
    rw [e]
    by_cases ha : (ls.all fun x => lineB (toB x)) = true
    · rw [if_pos ha]
      refine ⟨fun _ => ⟨by omega, fun x hx => List.all_eq_true.1 ha x hx⟩, fun _ => rfl⟩
    · rw [if_neg ha]
      constructor
      · intro e2; omega
      · rintro ⟨_, h2⟩
        exact absurd (List.all_eq_true.2 h2) ha
def kindP (k : Int) : Int := if k = 1 then 2 else if k = 2 then 1 else if k = 3 then 4 else if k = 4 then 3 else k
/-- What takes a step back. -/
def invP (p : Pk) : Pk := ⟨kindP p.kind, if p.kind = 5 then p.dst else p.path, if p.kind = 5 then p.path else p.dst, p.at_, p.new, p.old⟩
end Go.Proofs.YtempamboacbgiaaDoor
namespace Go.Proofs.YtempamboacbgiaaDoor
open Go.RowKit
set_option linter.unusedVariables false

def zeroP : Pk := ⟨0, [], [], 0, [], []⟩
theorem ck_nums {p : Pk} (h : ckP p = 0) (e : p.kind = 6) : 0 ≤ p.at_ ∧ p.old.length ≤ 2000 ∧ p.new.length ≤ 2000 := by
  obtain ⟨_, _, _, _, _, _, fh⟩ := ck_facts h
  obtain ⟨a, b, c⟩ := fh e
  exact ⟨a, (check_iff.1 b).1, (check_iff.1 c).1⟩
end Go.Proofs.YtempamboacbgiaaDoor
namespace Go.Proofs.YtempamboacbgiaaDoor
open Go.RowKit
set_option linter.unusedVariables false

/-- What goes, and what comes, of two hunks that touch, as one. -/
def fuseOld (p q : Pk) : List (List UInt8) := q.old.take (p.at_ - q.at_).toNat ++ p.old ++ q.old.drop (p.at_ + p.new.length - q.at_).toNat
def fuseNew (p q : Pk) : List (List UInt8) := p.new.take (q.at_ - p.at_).toNat ++ q.new ++ p.new.drop (q.at_ + q.old.length - p.at_).toNat
def fuseH (p q : Pk) : Pk := ⟨6, p.path, [], min p.at_ q.at_, fuseOld p q, fuseNew p q⟩
/-- Do two hunks of one file touch (that may be, both)? -/
def touchP (p q : Pk) : Bool := decide (ckP p = 0 ∧ ckP q = 0 ∧ p.kind = 6 ∧ q.kind = 6 ∧ p.path = q.path ∧ q.at_ ≤ p.at_ + p.new.length ∧ p.at_ ≤ q.at_ + q.old.length)
/-- Where the second one's old lines lie over the first one's new ones, they are the same. -/
def agreeP (p q : Pk) : Bool := decide (∀ i < p.new.length, p.at_ + (i : Int) - q.at_ < q.old.length → 0 ≤ p.at_ + (i : Int) - q.at_ → p.new[i]? = q.old[(p.at_ + (i : Int) - q.at_).toNat]?)
def hunksP (p q : Pk) : Option Pk := if touchP p q = true ∧ agreeP p q = true then some (fuseH p q) else none
/-- What two steps become, or that they stay. -/
def fuseP (p q : Pk) : Option (List Pk) :=
  if ckP p ≠ 0 ∨ ckP q ≠ 0 then none
  else if p.kind ≠ 2 ∧ p.kind ≠ 4 ∧ p.kind ≠ 6 ∧ invP p = q then some []
  else if p.kind = 5 ∧ q.kind = 5 ∧ q.path = p.dst then some [⟨5, p.path, q.dst, 0, [], []⟩]
  else match hunksP p q with
  | none => none
  | some h => if h.old = h.new then some [] else some [h]
theorem fuse_one {p q : Pk} {l : List Pk} (hf : fuseP p q = some l) : l = [] ∨ ∃ z, l = [z] := by
  unfold fuseP at hf
  split at hf
  · cases hf
  split at hf
  · cases hf; exact .inl rfl
  split at hf
  · cases hf; exact .inr ⟨_, rfl⟩
  · cases hh : hunksP p q with
    | none => rw [hh] at hf; cases hf
    | some u =>
      rw [hh] at hf
      simp only at hf
      split at hf
      · cases hf; exact .inl rfl
      · cases hf; exact .inr ⟨_, rfl⟩
/-- One step more, behind those that are left (the last one first). -/
def pushP : List Pk → Pk → List Pk
  | [], x => [x]
  | y :: st, x => match fuseP y x with
    | none => x :: y :: st
    | some [] => st
    | some (z :: _) => pushP st z
/-- From the left on. -/
def fuseAllP (s : List Pk) : List Pk := (s.foldl pushP []).reverse
theorem push_len : ∀ (st : List Pk) (x : Pk), (pushP st x).length ≤ st.length + 1
  | [], x => by simp [pushP]
  | y :: st, x => by
    unfold pushP
    cases hf : fuseP y x with
    | none => simp
    | some l =>
      rcases fuse_one hf with rfl | ⟨z, rfl⟩
      · simp
        omega
      · have := push_len st z
        simp only [List.length_cons]
        omega
theorem fold_len : ∀ (s st : List Pk), (s.foldl pushP st).length ≤ st.length + s.length
  | [], st => by simp
  | x :: s, st => by
    have h1 := fold_len s (pushP st x)
    have h2 := push_len st x
    simp only [List.foldl_cons, List.length_cons]
    omega
theorem fuseall_len (s : List Pk) : (fuseAllP s).length ≤ s.length := by
  unfold fuseAllP
  rw [List.length_reverse]
  simpa using fold_len s []
end Go.Proofs.YtempamboacbgiaaDoor
namespace Go.Proofs.YtempamboacbgiaaDoor
open Go.RowKit
set_option linter.unusedVariables false

/-- What goes, of the places ahead of i: the hunk at a has n new lines, and takes po away; the other one, at b, takes Q away. (What comes is told likewise, the roles turned.) -/
def goA (a n b : Nat) (po Q : List (List UInt8)) (i : Nat) : List (List UInt8) := Q.take (min i a - b) ++ (if a < i then po else []) ++ (Q.drop (a + n - b)).take (i - max b (a + n))
theorem take_next (Q : List (List UInt8)) (k : Nat) : Q.take (k + 1) = Q.take k ++ (if h : k < Q.length then [Q[k]] else []) := by
  split
  · rename_i h
    exact List.take_succ_eq_append_getElem h
  · rename_i h
    rw [List.append_nil, List.take_of_length_le (by omega), List.take_of_length_le (by omega)]
/-- The line at a place, where only the other one has one. -/
def lineA (a n b : Nat) (Q : List (List UInt8)) (i : Nat) : List (List UInt8) := if h : (b ≤ i ∧ i - b < Q.length) ∧ ¬ (a ≤ i ∧ i < a + n) then [Q[i - b]'h.1.2] else []
theorem goA_next (a n b : Nat) (po Q : List (List UInt8)) (i : Nat) : goA a n b po Q (i + 1) = goA a n b po Q i ++ (if i = a then po else []) ++ lineA a n b Q i := by
  unfold goA lineA
  rcases Nat.lt_trichotomy i a with h | h | h
  · rw [if_neg (by omega), if_neg (by omega), if_neg (by omega), show min (i + 1) a = i + 1 by omega, show min i a = i by omega, show i + 1 - max b (a + n) = 0 by omega, show i - max b (a + n) = 0 by omega]
    simp only [List.take_zero, List.append_nil]
    by_cases hb : b ≤ i
    · rw [show i + 1 - b = (i - b) + 1 by omega, take_next]
      congr 1
      by_cases hq : i - b < Q.length
      · rw [dif_pos hq, dif_pos ⟨⟨hb, hq⟩, by omega⟩]
      · rw [dif_neg hq, dif_neg (fun h => hq h.1.2)]
    · rw [dif_neg (fun h => hb h.1.1), show i + 1 - b = 0 by omega, show i - b = 0 by omega]
      simp
  · subst h
    rw [if_pos (by omega), if_neg (by omega), if_pos rfl, show min (i + 1) i = i by omega, show min i i = i by omega]
    by_cases hn : n = 0 ∧ b ≤ i
    · obtain ⟨rfl, hb⟩ := hn
      rw [show i + 1 - max b (i + 0) = 0 + 1 by omega, show i - max b (i + 0) = 0 by omega, take_next]
      simp only [List.take_zero, List.append_nil, List.nil_append, List.append_assoc, Nat.add_zero]
      congr 2
      by_cases hq : i - b < Q.length
      · rw [dif_pos (by rw [List.length_drop]; omega), dif_pos ⟨⟨hb, hq⟩, by omega⟩, List.getElem_drop]
        simp only [Nat.add_zero]
      · rw [dif_neg (by rw [List.length_drop]; omega), dif_neg (fun h => hq h.1.2)]
    · rw [show i + 1 - max b (i + n) = 0 by omega, show i - max b (i + n) = 0 by omega, dif_neg (fun h => by omega)]
      simp only [List.take_zero, List.append_nil]
  · rw [if_pos (by omega), if_pos (by omega), if_neg (by omega), show min (i + 1) a = a by omega, show min i a = a by omega]
    by_cases hm : max b (a + n) ≤ i
    · rw [show i + 1 - max b (a + n) = (i - max b (a + n)) + 1 by omega, take_next]
      simp only [List.append_nil, List.append_assoc]
      congr 3
      by_cases hq : i - b < Q.length
      · rw [dif_pos (by rw [List.length_drop]; omega), dif_pos ⟨⟨by omega, hq⟩, by omega⟩, List.getElem_drop]
        congr 2
        omega
      · rw [dif_neg (by rw [List.length_drop]; omega), dif_neg (fun h => hq h.1.2)]
    · rw [show i + 1 - max b (a + n) = 0 by omega, show i - max b (a + n) = 0 by omega, dif_neg (fun h => by omega)]
      simp only [List.append_nil]
theorem goA_start (a n b : Nat) (po Q : List (List UInt8)) : goA a n b po Q (min a b) = [] := by
  unfold goA
  rw [if_neg (by omega), show min (min a b) a - b = 0 by omega, show min a b - max b (a + n) = 0 by omega]
  simp
theorem goA_end (a n b : Nat) (po Q : List (List UInt8)) : goA a n b po Q (max (a + n) (b + Q.length) + 1) = Q.take (a - b) ++ po ++ Q.drop (a + n - b) := by
  unfold goA
  rw [if_pos (by omega), show min (max (a + n) (b + Q.length) + 1) a = a by omega, List.take_of_length_le (l := Q.drop (a + n - b)) (by rw [List.length_drop]; omega)]
/-- The end is what the two hunks become. -/
theorem goA_fuse {p q : Pk} (h1 : 0 ≤ p.at_) (h2 : 0 ≤ q.at_) : goA p.at_.toNat p.new.length q.at_.toNat p.old q.old (max (p.at_.toNat + p.new.length) (q.at_.toNat + q.old.length) + 1) = fuseOld p q ∧
    goA q.at_.toNat q.old.length p.at_.toNat q.new p.new (max (p.at_.toNat + p.new.length) (q.at_.toNat + q.old.length) + 1) = fuseNew p q := by
  constructor
  · rw [goA_end]
    unfold fuseOld
    rw [show p.at_.toNat - q.at_.toNat = (p.at_ - q.at_).toNat by omega, show p.at_.toNat + p.new.length - q.at_.toNat = (p.at_ + p.new.length - q.at_).toNat by omega]
  · rw [Nat.max_comm, goA_end]
    unfold fuseNew
    rw [show q.at_.toNat - p.at_.toNat = (q.at_ - p.at_).toNat by omega, show q.at_.toNat + q.old.length - p.at_.toNat = (q.at_ + q.old.length - p.at_).toNat by omega]
end Go.Proofs.YtempamboacbgiaaDoor
