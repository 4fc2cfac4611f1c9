
/- The reference's Right, Check, Text, Split, At of layer 3. -/
import Derived.Test.YtokkkjgdfnkjoaaDoorLinePlain
import Derived.Test.YtokkkjgdfnkjoaaDoorAppend
import Derived.Test.YtokkkjgdfnkjoaaDoorShelf
import Derived.Lib.LaidU8
import Derived.BigQuiet
import Derived.BigRegion
import Derived.Deep.QuietTactic
import Derived.Handy
namespace Go.Proofs.YtokkkjgdfnkjoaaDoor
open Go.RowKit
set_option linter.unusedVariables false

/-- unicode/utf8's two tables lie in their variables. -/
def Tabs (w : World) : Prop := Lib.Utf8Tabs 0 1 w
theorem cell_lt {w : World} {b o : Nat} {v : Value} (h : w.cell? ⟨b, o, none⟩ = some v) : b < w.heap.size := by
  unfold World.cell? at h
  rcases Nat.lt_or_ge b w.heap.size with h1 | h1
  · exact h1
  · rw [Array.getElem?_eq_none h1] at h
    simp at h
theorem Tabs.on {w w' : World} (h : Tabs w) (hb : Below w.heap.size w w') : Tabs w' :=
  ⟨fun c hc => (hb.cell (p := ⟨_, c, none⟩) (cell_lt (h.1 c hc))).trans (h.1 c hc),
   fun i hi => ⟨(hb.cell (p := ⟨_, 2 * i, none⟩) (cell_lt (h.2 i hi).1)).trans (h.2 i hi).1, (hb.cell (p := ⟨_, 2 * i + 1, none⟩) (cell_lt (h.2 i hi).2)).trans (h.2 i hi).2⟩⟩

theorem decode_tail (s : ByteArray) (i : Nat) (h : i < s.size) (w : World) (hT : Tabs w) :
    Calls Tryd.prog 37 #[.string (s.extract i s.size)] w fun e w' => e = .returned (.tuple #[.int .i32 (Utf8.decode s i).1, .int .i64 (Utf8.decode s i).2]) ∧ Below w.heap.size w w' := by
  have h1 := Tryd.utf8_DecodeRuneInString (s.extract i s.size) w hT
  rw [decodeGo_tail s i h] at h1
  exact h1

set_option maxRecDepth 100000 in
theorem refline_any (s : ByteArray) (w : World) (hs : s.size ≤ 9223372036854775807) (hT : Tabs w) :
    Calls Tryd.prog 22 #[.string s] w fun e w' => e = .returned (.bool (lineB s)) ∧ Below w.heap.size w w' := by
  by_cases h2 : 200 < s.size
  · have hr : lineB s = false := by simp [lineB]; omega
    rw [hr]
    go_enter Tryd.func22, Tryd.ntmps22
    go_wp2
    go_ret
    exact ⟨rfl, Below.refl _ _⟩
  · have hr : Hid (lineB s = runes s 0) := by show _ = _; simp [lineB]; omega
    have HT := Lib.hid hT
    clear hT
    go_enter Tryd.func22, Tryd.ntmps22
    go_wp2
    go_loopw [3] (fun i wr => ∃ k : Nat, k ≤ s.size + 4 ∧ i = .int .i64 (k : Int) ∧ Hid (runes s 0 = runes s k) ∧ Below w.heap.size w wr) (fun i _ => s.size - (intOf i).toNat)
    case atStart => exact ⟨0, Nat.zero_le _, rfl, rfl, Below.refl _ _⟩
    case round =>
      obtain ⟨k, hk, rfl, heq, hb⟩ := hrel
      by_cases hlt : k < s.size
      · have hc := Lib.hid (decode_tail s k hlt wr (HT.out.on hb))
        have hp := decode_pos s k
        have hp2 := decode_le s k
        have hp3 := decode_rune s k
        have hg := runes_good (s := s) (i := k) hlt
        have hbad := runes_bad (s := s) (i := k) hlt
        obtain ⟨r, n, hd⟩ : ∃ r n, Utf8.decode s k = (r, n) := ⟨_, _, rfl⟩
        rw [hd] at hc hp hp2 hp3 hg hbad
        simp only at hc hp hp2 hp3 hg
        clear hd
        cases hbr : badRune (r, n) with
        | true =>
          have hno : Hid (lineB s = false) := by show _ = _; rw [hr.out, heq.out]; exact hbad hbr
          clear hg hbad heq hr
          have hbc : (r = 65533 ∧ n = 1) ∨ (r < 32 ∧ r ≠ 9) := by simpa [badRune] using hbr
          clear hbr
          rcases hbc with ⟨rfl, rfl⟩ | ⟨b1, b2⟩
          · go_wp2_with (go_at_call 37; refine hc.out.mono ?_; rintro e w1 ⟨rfl, hb1⟩)
            go_ret
            rw [hno.out]
            exact ⟨rfl, hb.trans (hb1.mono hb.size)⟩
          · have q1 : ((r : Int) == 65533) = false := by rw [beq_eq_false_iff_ne]; omega
            have q2 : (r : Int) < 32 := by omega
            have q3 : ((r : Int) != 9) = true := by simp; omega
            go_wp2_with (go_at_call 37; refine hc.out.mono ?_; rintro e w1 ⟨rfl, hb1⟩)
            go_ret
            rw [hno.out]
            exact ⟨rfl, hb.trans (hb1.mono hb.size)⟩
        | false =>
          have hok : Hid (runes s 0 = runes s (k + n)) := by show _ = _; rw [heq.out]; exact hg hbr
          clear hg hbad heq
          have hgc : ¬ (r = 65533 ∧ n = 1) ∧ ¬ (r < 32 ∧ r ≠ 9) := by
            have := hbr
            simp [badRune] at this
            omega
          clear hbr
          obtain ⟨g1, g2⟩ := hgc
          by_cases e1 : r = 65533
          · subst e1
            have q2 : ((n : Int) == 1) = false := by rw [beq_eq_false_iff_ne]; omega
            go_wp2_with (go_at_call 37; refine hc.out.mono ?_; rintro e w1 ⟨rfl, hb1⟩)
            have hb2 := hb.trans (hb1.mono hb.size)
            go_roundw
            case rel => exact ⟨k + n, by omega, by go_num, hok, hb2⟩
            case measure => simp [intOf]; omega
          · have q1 : ((r : Int) == 65533) = false := by rw [beq_eq_false_iff_ne]; omega
            by_cases e2 : r = 9
            · subst e2
              go_wp2_with (go_at_call 37; refine hc.out.mono ?_; rintro e w1 ⟨rfl, hb1⟩)
              have hb2 := hb.trans (hb1.mono hb.size)
              go_roundw
              case rel => exact ⟨k + n, by omega, by go_num, hok, hb2⟩
              case measure => simp [intOf]; omega
            · have q2 : ¬ (r : Int) < 32 := by omega
              go_wp2_with (go_at_call 37; refine hc.out.mono ?_; rintro e w1 ⟨rfl, hb1⟩)
              have hb2 := hb.trans (hb1.mono hb.size)
              go_roundw
              case rel => exact ⟨k + n, by omega, by go_num, hok, hb2⟩
              case measure => simp [intOf]; omega
      · have hfin : Hid (lineB s = true) := by show _ = _; rw [hr.out, heq.out]; exact runes_end hlt
        clear heq hr
        go_wp2
        go_ret
        rw [hfin.out]
        exact ⟨rfl, hb⟩

set_option maxRecDepth 100000 in
theorem refcheck_any (A : Option Addr) (ss : List ByteArray) (cap : Nat) (w : World) (hs : Strs w w.heap.size A ss) (hn : ss.length ≤ 9223372036854775807) (hz : ∀ s ∈ ss, s.size ≤ 9223372036854775807) (hT : Tabs w) :
    Calls Tryd.prog 10 #[.slice A ss.length cap] w fun e w' => e = .returned (.int .i64 (checkN ss)) ∧ Below w.heap.size w w' := by
  by_cases h2 : 2000 < ss.length
  · rw [checkN_big h2]
    go_enter Tryd.func10, Tryd.ntmps10
    go_wp2
    go_ret
    exact ⟨rfl, Below.refl _ _⟩
  · have HT := Lib.hid hT
    have HS := Lib.hid hs
    have HZ := Lib.hid hz
    clear hT hs hz
    go_enter Tryd.func10, Tryd.ntmps10
    go_wp2
    go_loopw [3] (fun i wr => ∃ k : Nat, k ≤ ss.length ∧ i = .int .i64 (k : Int) ∧ Hid (∀ j (hj : j < ss.length), j < k → lineB ss[j] = true) ∧ Below w.heap.size w wr) (fun i _ => ss.length - (intOf i).toNat)
    case atStart => exact ⟨0, Nat.zero_le _, rfl, fun j _ h => absurd h (by omega), Below.refl _ _⟩
    case round =>
      obtain ⟨k, hk, rfl, hall, hb⟩ := hrel
      by_cases hlt : k < ss.length
      · obtain ⟨g, off, rfl, hg, hc⟩ := (HS.out.below hb).at_ hlt
        have hl := Lib.hid (refline_any ss[k] wr (HZ.out _ (List.getElem_mem _)) (HT.out.on hb))
        cases hx : lineB ss[k] with
        | true =>
          have hall2 : Hid (∀ j (hj : j < ss.length), j < k + 1 → lineB ss[j] = true) := by
            intro j hj hjk
            by_cases h : j = k
            · subst h; exact hx
            · exact hall.out j hj (by omega)
          rw [hx] at hl
          generalize ss[k] = s at *
          clear hall hx
          go_wp2_with (go_at_call 22; refine hl.out.mono ?_; rintro e w1 ⟨rfl, hb1⟩)
          have hb2 := hb.trans (hb1.mono hb.size)
          go_roundw
          case rel => exact ⟨k + 1, by omega, by go_num, hall2, hb2⟩
          case measure => simp [intOf]; omega
        | false =>
          have hno : Hid (checkN ss = 6) := checkN_bad h2 hlt hx
          rw [hx] at hl
          generalize ss[k] = s at *
          clear hall hx
          go_wp2_with (go_at_call 22; refine hl.out.mono ?_; rintro e w1 ⟨rfl, hb1⟩)
          go_ret
          rw [hno.out]
          exact ⟨rfl, hb.trans (hb1.mono hb.size)⟩
      · have hk2 : k = ss.length := by omega
        subst hk2
        have hyes : Hid (checkN ss = 0) := checkN_ok h2 fun j hj => hall.out j hj hj
        clear hall
        go_wp2
        go_ret
        rw [hyes.out]
        exact ⟨rfl, hb⟩

theorem text_app (l : List UInt8) (s : ByteArray) : (toB l ++ s ++ ⟨#[10]⟩ : ByteArray) = toB (l ++ s.data.toList ++ [10]) := by
  apply ByteArray.ext
  simp [toB]
theorem textL_le (ls : List (List UInt8)) (k : Nat) : (textL (ls.take k)).length ≤ (textL ls).length := by
  have h : textL ls = textL (ls.take k) ++ textL (ls.drop k) := by
    simp only [textL, ← List.flatten_append, ← List.map_append, List.take_append_drop]
  rw [h]; simp
theorem lists_take1 (ss : List ByteArray) (k : Nat) (h : k < ss.length) : lists (ss.take (k + 1)) = lists (ss.take k) ++ [ss[k].data.toList] := by
  rw [List.take_succ_eq_append_getElem h, lists, List.map_append]; rfl
theorem lists_take0 (ss : List ByteArray) (k : Nat) : lists (ss.take k) = (lists ss).take k := by simp [lists, List.map_take]
theorem toB_size (l : List UInt8) : (toB l).size = l.length := by simp [toB, ByteArray.size]

set_option maxRecDepth 100000 in
theorem reftext3_any (A : Option Addr) (ss : List ByteArray) (cap : Nat) (w : World) (hs : Strs w w.heap.size A ss) (hn : ss.length ≤ 1000000) (hz : (textL (lists ss)).length ≤ 140737488351232) :
    Calls Tryd.prog 12 #[.slice A ss.length cap] w fun e w' => e = .returned (.string (toB (textL (lists ss)))) ∧ Below w.heap.size w w' := by
  have HS := Lib.hid hs
  clear hs
  go_enter Tryd.func12, Tryd.ntmps12
  go_wp2
  go_loopw [3, 4] (fun x i wr => ∃ (k : Nat) (l : List UInt8), k ≤ ss.length ∧ i = .int .i64 (k : Int) ∧ x = .string (toB l) ∧ Hid (l = textL (lists (ss.take k))) ∧ Below w.heap.size w wr) (fun _ i _ => ss.length - (intOf i).toNat)
  case atStart => exact ⟨0, [], Nat.zero_le _, rfl, rfl, rfl, Below.refl _ _⟩
  case round =>
    obtain ⟨k, l, hk, rfl, rfl, hl, hb⟩ := hrel
    by_cases hlt : k < ss.length
    · obtain ⟨g, off, rfl, hg, hc⟩ := (HS.out.below hb).at_ hlt
      have hnew : Hid (l ++ ss[k].data.toList ++ [10] = textL (lists (ss.take (k + 1)))) := by
        show _ = _
        rw [lists_take1 ss k hlt, textL_snoc, hl.out]
      have hle : l.length + ss[k].size + 1 ≤ 140737488351232 := by
        have h1 := congrArg List.length hnew.out
        have h2 := textL_le (lists ss) (k + 1)
        rw [← lists_take0, ← h1] at h2
        simp only [List.length_append, List.length_singleton, Array.length_toList, ByteArray.size_data] at h2
        omega
      have hsz := toB_size l
      have happ := text_app l ss[k]
      generalize ss[k] = s at *
      clear hl
      go_wp2
      go_roundw
      case rel => exact ⟨k + 1, l ++ s.data.toList ++ [10], by omega, by go_num, by rw [List.append_assoc], hnew, hb⟩
      case measure => simp [intOf]; omega
    · have hk2 : k = ss.length := by omega
      subst hk2
      have hfin : Hid (l = textL (lists ss)) := by show _ = _; rw [hl.out, List.take_length]
      clear hl
      go_wp2
      go_ret
      rw [← hfin.out]
      exact ⟨rfl, hb⟩

/-- A part of a text. -/
theorem extract_toB (s : ByteArray) (i j : Nat) : s.extract i j = toB ((s.data.toList.drop i).take (j - i)) := by
  apply ByteArray.ext
  rw [ByteArray.data_extract]
  apply Array.ext'
  simp [toB, Array.toList_extract, List.extract_eq_take_drop]
theorem drop_cons (s : ByteArray) (k : Nat) (h : k < s.size) : s.data.toList.drop k = s[k] :: s.data.toList.drop (k + 1) := by
  rw [List.drop_eq_getElem_cons (by simpa using h)]
  rfl
theorem cur_snoc (s : ByteArray) (a k : Nat) (hak : a ≤ k) (h : k < s.size) : (s.data.toList.drop a).take (k + 1 - a) = (s.data.toList.drop a).take (k - a) ++ [s[k]] := by
  rw [show k + 1 - a = (k - a) + 1 by omega, List.take_succ_eq_append_getElem (by simp; omega)]
  congr 2
  simp [show a + (k - a) = k by omega]
  rfl

set_option maxRecDepth 100000 in
theorem refsplit_any (s : ByteArray) (w : World) (hs : s.size ≤ 1000000) :
    Calls Tryd.prog 17 #[.string s] w fun e w' => ∃ v, e = .returned (.tuple #[v, .bool (splitGo [] s.data.toList).2]) ∧ OwnS w' w.heap.size v (splitGo [] s.data.toList).1 ∧ Below w.heap.size w w' := by
  go_enter Tryd.func17, Tryd.ntmps17
  go_wp2
  go_loopw [4, 5, 6] (fun v a i wr => ∃ (k b : Nat) (ls : List (List UInt8)), k ≤ s.size ∧ b ≤ k ∧ i = .int .i64 (k : Int) ∧ a = .int .i64 (b : Int) ∧ Hid (OwnS wr w.heap.size v ls) ∧ ls.length ≤ k ∧
      Hid (splitGo [] s.data.toList = aheadS ls (splitGo ((s.data.toList.drop b).take (k - b)) (s.data.toList.drop k))) ∧ Below w.heap.size w wr) (fun _ _ i _ => s.size - (intOf i).toNat)
  case atStart => exact ⟨0, 0, [], Nat.zero_le _, Nat.le_refl _, rfl, rfl, OwnS.nil _ _, by simp, by show _ = _; simp [aheadS], Below.refl _ _⟩
  case round =>
    obtain ⟨k, b, ls, hk, hbk, rfl, rfl, hown, hlen, heq, hb⟩ := hrel
    have hB := hb.size
    by_cases hlt : k < s.size
    · by_cases h10 : s[k] = 10
      · have hnew : Hid (splitGo [] s.data.toList = aheadS (ls ++ [(s.data.toList.drop b).take (k - b)]) (splitGo ((s.data.toList.drop (k + 1)).take (k + 1 - (k + 1))) (s.data.toList.drop (k + 1)))) := by
          show _ = _
          rw [heq.out, drop_cons s k hlt, h10, splitGo_end]
          simp
        have hq : ((s[k].toNat : Int) == 10) = true := by rw [h10]; rfl
        have hl2 : ls.length + [(s.data.toList.drop b).take (k - b)].length ≤ 1000000 := by simp; omega
        have hx := extract_toB s b k
        generalize hcur : (s.data.toList.drop b).take (k - b) = cur at *
        clear heq h10 hcur
        go_wp2_with (at_builtin; refine wpList_append_strs rfl _ _ rfl w.heap.size _ ls [cur] rfl ?_ (some ⟨wr.heap.size, 0, none⟩) 1 1 rfl rfl (fun e => by cases e) ?_ ?_ hl2 ?_)
        · exact World.ownsRow.alloc hown.out _
        · have := strs_one wr (toB cur)
          rw [of_toB] at this
          exact this
        · simp; omega
        intro v2 w2 ho2 hg2
        have hb2 := below_append (hb.alloc hB _) (show OwnS _ _ _ ls from World.ownsRow.alloc hown.out _) hg2 (Nat.le_refl _)
        have HO2 := Lib.hid ho2
        clear ho2 hg2
        go_wp2
        go_roundw
        case rel => exact ⟨k + 1, k + 1, ls ++ [cur], by omega, by omega, by go_num, by go_num, HO2.out, by simp; omega, hnew, hb2⟩
        case measure => simp [intOf]; omega
      · have hnew : Hid (splitGo [] s.data.toList = aheadS ls (splitGo ((s.data.toList.drop b).take (k + 1 - b)) (s.data.toList.drop (k + 1)))) := by
          show _ = _
          rw [heq.out, drop_cons s k hlt, splitGo_more _ _ _ _ h10, cur_snoc s b k hbk hlt]
        have hq : ((s[k].toNat : Int) == 10) = false := by
          rw [beq_eq_false_iff_ne]
          intro h
          exact h10 (UInt8.toNat_inj.1 (by simpa using (by omega : s[k].toNat = 10)))
        clear heq h10
        go_wp2
        go_roundw
        case rel => exact ⟨k + 1, b, ls, by omega, by omega, by go_num, by rfl, hown.out, by omega, hnew, hb⟩
        case measure => simp [intOf]; omega
    · have hk2 : k = s.size := by omega
      subst hk2
      have hfin : Hid (splitGo [] s.data.toList = (ls, ((b : Int) == (s.size : Int)))) := by
        show _ = _
        rw [heq.out]
        have e : s.data.toList.drop s.size = [] := List.drop_of_length_le (by simp)
        rw [e]
        simp only [splitGo, aheadS, List.append_nil]
        congr 1
        rw [Bool.eq_iff_iff, List.isEmpty_iff, List.take_eq_nil_iff, List.drop_eq_nil_iff, beq_iff_eq]
        simp
        omega
      clear heq
      go_wp2
      go_ret2
      rw [hfin.out]
      exact ⟨_, rfl, hown.out, hb⟩

theorem atB_no {ls part : List (List UInt8)} {a k : Nat} (hk : k < part.length) (ha : a + k < ls.length) (h : ls[a + k] ≠ part[k]) : atB ls part a = false := by
  have : ¬ ((ls.drop a).take part.length = part) := by
    intro e
    have h1 := congrArg (·[k]?) e
    simp only [List.getElem?_take, if_pos hk, List.getElem?_drop, List.getElem?_eq_getElem ha, List.getElem?_eq_getElem hk, Option.some.injEq] at h1
    exact h h1
  simp [atB, this]
theorem atB_yes {ls part : List (List UInt8)} {a : Nat} (hl : a + part.length ≤ ls.length) (h : ∀ k (hk : k < part.length), ls[a + k]'(by omega) = part[k]) : atB ls part a = true := by
  have : (ls.drop a).take part.length = part := by
    apply List.ext_getElem
    · simp; omega
    · intro k h1 h2
      simp only [List.getElem_take, List.getElem_drop]
      exact h k h2
  simp [atB, this]
  omega

set_option maxRecDepth 100000 in
theorem refat_any (A A2 : Option Addr) (la lc : List (List UInt8)) (cap cap2 : Nat) (n : Int) (w : World) (hs : Strs w w.heap.size A (toBs la)) (ht : Strs w w.heap.size A2 (toBs lc)) (hn : la.length ≤ 1000000) (hn2 : lc.length ≤ 1000000) (h1 : -9223372036854775808 ≤ n) (h2 : n ≤ 9223372036854775807) :
    Calls Tryd.prog 19 #[.slice A la.length cap, .slice A2 lc.length cap2, .int .i64 n] w fun e w' => e = .returned (.bool (atB la lc n)) ∧ Below w.heap.size w w' := by
  by_cases hneg : n < 0
  · have hr : atB la lc n = false := by simp [atB]; omega
    rw [hr]
    clear hs ht
    go_enter Tryd.func19, Tryd.ntmps19
    go_wp2
    go_ret
    exact ⟨rfl, Below.refl _ _⟩
  · by_cases hbig : (la.length : Int) - n < lc.length
    · have hr : atB la lc n = false := by simp [atB]; omega
      rw [hr]
      clear hs ht
      go_enter Tryd.func19, Tryd.ntmps19
      go_wp2
      go_ret
      exact ⟨rfl, Below.refl _ _⟩
    · obtain ⟨a, rfl⟩ : ∃ a : Nat, n = (a : Int) := ⟨n.toNat, by omega⟩
      have hal : a + lc.length ≤ la.length := by omega
      have HS := Lib.hid hs
      have HT := Lib.hid ht
      clear hs ht
      go_enter Tryd.func19, Tryd.ntmps19
      go_wp2
      go_loopw [7] (fun i wr => ∃ k : Nat, k ≤ lc.length ∧ i = .int .i64 (k : Int) ∧ Hid (∀ j (hj : j < lc.length), j < k → la[a + j]'(by omega) = lc[j]) ∧ Below w.heap.size w wr) (fun i _ => lc.length - (intOf i).toNat)
      case atStart => exact ⟨0, Nat.zero_le _, rfl, fun j _ h => absurd h (by omega), Below.refl _ _⟩
      case round =>
        obtain ⟨k, hk, rfl, hall, hb⟩ := hrel
        by_cases hlt : k < lc.length
        · obtain ⟨g, off, rfl, hg, hc⟩ := (HS.out.below hb).at_ (k := a + k) (by rw [toBs_len]; omega)
          obtain ⟨g2, off2, rfl, hg2, hc2⟩ := (HT.out.below hb).at_ (k := k) (by rw [toBs_len]; omega)
          have e1 : (toBs la)[a + k]'(by rw [toBs_len]; omega) = toB (la[a + k]'(by omega)) := by simp [toBs]
          have e2 : (toBs lc)[k]'(by rw [toBs_len]; omega) = toB lc[k] := by simp [toBs]
          rw [e1] at hc
          rw [e2] at hc2
          have c1 : ((a : Int) + (k : Int)) < (la.length : Int) := by omega
          have c2 : 0 ≤ (a : Int) + (k : Int) := by omega
          by_cases he : la[a + k]'(by omega) = lc[k]
          · have hall2 : Hid (∀ j (hj : j < lc.length), j < k + 1 → la[a + j]'(by omega) = lc[j]) := by
              intro j hj hjk
              by_cases h : j = k
              · subst h; exact he
              · exact hall.out j hj (by omega)
            rw [he] at hc
            generalize toB lc[k] = t at *
            clear hall he e1 e2
            go_wp2
            go_quiet (fail)
            go_wp2
            go_roundw
            case rel => exact ⟨k + 1, by omega, by go_num, hall2, below_drewN hb _⟩
            case measure => simp [intOf]; omega
          · have hno : Hid (atB la lc a = false) := atB_no hlt (by omega) he
            have hne : ((toB (la[a + k]'(by omega))).toList == (toB lc[k]).toList) = false := by
              rw [beq_eq_false_iff_ne, toList_eq, toList_eq, of_toB, of_toB]
              exact he
            generalize toB lc[k] = t at *
            generalize toB (la[a + k]'(by omega)) = t2 at *
            clear hall he e1 e2
            go_wp2
            go_quiet (fail)
            go_wp2
            go_ret
            rw [hno.out]
            exact ⟨rfl, below_drewN hb _⟩
        · have hk2 : k = lc.length := by omega
          subst hk2
          have hyes : Hid (atB la lc a = true) := atB_yes hal fun j hj => hall.out j hj hj
          clear hall
          go_wp2
          go_ret
          rw [hyes.out]
          exact ⟨rfl, hb⟩
end Go.Proofs.YtokkkjgdfnkjoaaDoor
