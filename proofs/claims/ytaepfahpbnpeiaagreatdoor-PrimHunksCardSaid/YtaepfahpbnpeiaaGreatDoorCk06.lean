/- The reference's Begins and Less of layer 5. Paths, plainly: where a path is cut, what lies within it, how it is moved, within which it lies; for any test of names that no slash passes. What package path's calls are to do, as words: each is to be proved of the landed code. The reference's Find, Dir, Up, Same of layer 6. -/
import Derived.Test.YtaepfahpbnpeiaaGreatDoorCk05
import Derived.Test.YtaepfahpbnpeiaaGreatDoorCk04
import Derived.Test.YtaepfahpbnpeiaaGreatDoorCk02
namespace Go.Proofs.YtaepfahpbnpeiaaGreatDoor
open Go.RowKit
set_option linter.unusedVariables false

theorem rsame_l (A A2 : Option Addr) (la lc : List (List UInt8)) (cap cap2 : Nat) (w : World) (d : Bool) (hd : decide (la = lc) = d) (hs : Strs w w.heap.size A (toBs la)) (ht : Strs w w.heap.size A2 (toBs lc)) (hn : la.length ≤ 1000000) (hn2 : lc.length ≤ 1000000) :
    Calls Tryz.prog 24 #[.slice A la.length cap, .slice A2 lc.length cap2] w fun e w' => e = .returned (.bool d) ∧ ∃ m, w' = w.drewN m := by
  have h := same_q A A2 (toBs la) (toBs lc) cap cap2 w hs ht (by rw [toBs_len]; omega) (by rw [toBs_len]; omega)
  rw [toBs_len, toBs_len, show decide (toBs la = toBs lc) = d from by
    rw [← hd]
    congr 1
    refine propext ⟨fun h => ?_, fun h => by rw [h]⟩
    have := congrArg lists h
    rwa [lists_toBs, lists_toBs] at this] at h
  exact h
theorem bless_eq (l m : List UInt8) : Op.bytesLess (toB l).toList (toB m).toList = decide (l < m) := by
  rw [bytesLess_eq, toList_eq, toList_eq, of_toB, of_toB]
theorem bless_eqs (s t : ByteArray) : Op.bytesLess s.toList t.toList = decide (s.data.toList < t.data.toList) := by
  rw [bytesLess_eq, toList_eq, toList_eq]

set_option maxHeartbeats 2000000 in
set_option maxRecDepth 100000 in
theorem refpless_any (s t : ByteArray) (w : World) (hs : s.size ≤ 9223372036854775807) (ht : t.size ≤ 9223372036854775807) :
    Calls Tryz.prog 119 #[.string s, .string t] w fun e w' => e = .returned (.bool (lessP nameP s.data.toList t.data.toList)) ∧ Below w.heap.size w w' := by
  have C1 := Lib.hid (refnames_any s w hs)
  obtain ⟨d, hd⟩ : ∃ d, d = lessP nameP s.data.toList t.data.toList := ⟨_, rfl⟩
  rw [← hd]
  have hbl := bless_eqs s t
  unfold lessP at hd
  rw [← hbl] at hd
  have hlen : ∀ p : List UInt8, (names nameP p).length ≤ 16 := by
    intro p
    unfold names
    split
    · rename_i h; exact h.2.2
    · simp
  obtain ⟨x, hx⟩ : ∃ x, names nameP s.data.toList = x := ⟨_, rfl⟩
  obtain ⟨y, hy⟩ : ∃ y, names nameP t.data.toList = y := ⟨_, rfl⟩
  have hlx := hlen s.data.toList
  have hly := hlen t.data.toList
  rw [hx] at hd C1 hlx
  rw [hy] at hd hly
  have HD := Lib.hid hd
  have HY := Lib.hid hy
  clear hd hbl hlen hx hy
  go_enter Tryz.func119, Tryz.ntmps119
  go_wp2_with fail
  refine C1.out.mono ?_
  rintro e w1 ⟨v1, rfl, o1, b1⟩
  have C2 := refnames_any t w1 ht
  rw [HY.out] at C2
  have HC2 := Lib.hid C2
  have O1 := Lib.hid o1
  have B1 := Lib.hid b1
  clear C1 C2 o1 b1
  go_wp2_with fail
  refine HC2.out.mono ?_
  rintro e w2 ⟨v2, rfl, o2, b2⟩
  have o1 := O1.out.kept b2
  obtain ⟨A1, k1, rfl, s1, _, _⟩ := o1.strs
  obtain ⟨A2, k2, rfl, s2, _, _⟩ := o2.strs
  have S1 := Lib.hid s1
  have S2 := Lib.hid s2
  have BB := Lib.hid (B1.out.trans (b2.mono B1.out.size))
  clear o1 o2 s1 s2 b2 HC2 O1 B1
  by_cases hz : x.length = 0 ∧ y.length = 0
  · have hfin : Hid (d = Op.bytesLess s.toList t.toList) := by
      show _ = _
      rw [HD.out, if_pos ⟨List.length_eq_zero_iff.1 hz.1, List.length_eq_zero_iff.1 hz.2⟩]
    obtain ⟨z1, z2⟩ := hz
    have z3 : (x.length : Int) = 0 := by omega
    have z4 : (y.length : Int) = 0 := by omega
    go_wp2
    go_ret
    rw [hfin.out]
    exact ⟨rfl, BB.out⟩
  · have HE : Hid (d = lessL x y) := by
      show _ = _
      rw [HD.out, if_neg]
      rintro ⟨e1, e2⟩
      exact hz ⟨by rw [e1]; rfl, by rw [e2]; rfl⟩
    have hg : ((x.length : Int) == 0) = false ∨ ((x.length : Int) == 0) = true ∧ ((y.length : Int) == 0) = false := by
      by_cases h : x.length = 0
      · right
        refine ⟨by rw [h]; rfl, ?_⟩
        rw [beq_eq_false_iff_ne]
        omega
      · left
        rw [beq_eq_false_iff_ne]
        omega
    clear hz HD
    rcases hg with hg | ⟨hg, hg2⟩
    all_goals (
      go_wp2
      go_loopw [7] (fun iv wr => ∃ k : Nat, k ≤ x.length ∧ k ≤ y.length ∧ iv = .int .i64 (k : Int) ∧ Hid (∀ j (h : j < x.length) (h2 : j < y.length), j < k → x[j] = y[j]) ∧ ∃ q, wr = w2.drewN q) (fun iv _ => x.length - (intOf iv).toNat)
      case atStart => exact ⟨0, Nat.zero_le _, Nat.zero_le _, rfl, fun j _ _ h => absurd h (by omega), 0, rfl⟩
      case round =>
        obtain ⟨k, hk, hk2, rfl, hall, q, rfl⟩ := hrel
        by_cases hx : k < x.length
        · by_cases hy : k < y.length
          · obtain ⟨g, off, rfl, _, hc⟩ := S1.out.at_ (k := k) (by rw [toBs_len]; exact hx)
            obtain ⟨g2, off2, rfl, _, hc2⟩ := S2.out.at_ (k := k) (by rw [toBs_len]; exact hy)
            have e1 : (toBs x)[k]'(by rw [toBs_len]; exact hx) = toB x[k] := by simp [toBs]
            have e2 : (toBs y)[k]'(by rw [toBs_len]; exact hy) = toB y[k] := by simp [toBs]
            rw [e1] at hc
            rw [e2] at hc2
            by_cases he : x[k] = y[k]
            · have hyes : Hid (∀ j (h : j < x.length) (h2 : j < y.length), j < k + 1 → x[j] = y[j]) := by
                intro j hj hj2 hjk
                by_cases hjk2 : j = k
                · subst hjk2; exact he
                · exact hall.out j hj hj2 (by omega)
              rw [he] at hc
              generalize toB y[k] = z at *
              clear he hall e1 e2
              go_wp2
              go_quiet (fail)
              go_wp2
              go_roundw
              case rel => exact ⟨k + 1, by omega, by omega, by go_num, hyes, _, rfl⟩
              case measure => simp [intOf] <;> omega
            · have hbl := bless_eq x[k] y[k]
              have hfin : Hid (d = Op.bytesLess (toB x[k]).toList (toB y[k]).toList) := by
                show _ = _
                rw [hbl, HE.out]
                exact lessL_at hx hy hall.out he
              have hne : ((toB x[k]).toList == (toB y[k]).toList) = false := by
                rw [beq_eq_false_iff_ne, toList_eq, toList_eq, of_toB, of_toB]
                exact he
              clear hbl
              generalize toB y[k] = z at *
              generalize toB x[k] = z2 at *
              clear he hall e1 e2
              go_wp2
              go_quiet (fail)
              go_wp2
              go_quiet (fail)
              go_wp2
              go_ret
              rw [hfin.out]
              exact ⟨rfl, below_drewN (below_drewN (below_drewN BB.out _) _) _⟩
          · have hfin : Hid (d = decide (x.length < y.length)) := by
              show _ = _
              rw [HE.out]
              exact lessL_end fun j h h2 => hall.out j h h2 (by omega)
            clear hall
            go_wp2
            go_ret
            rw [hfin.out]
            exact ⟨by simp, below_drewN BB.out _⟩
        · have hfin : Hid (d = decide (x.length < y.length)) := by
            show _ = _
            rw [HE.out]
            exact lessL_end fun j h h2 => hall.out j h h2 (by omega)
          clear hall
          go_wp2
          go_ret
          rw [hfin.out]
          exact ⟨by simp, below_drewN BB.out _⟩)
end Go.Proofs.YtaepfahpbnpeiaaGreatDoor
namespace Go.Proofs.YtaepfahpbnpeiaaGreatDoor
set_option linter.unusedVariables false
set_option linter.unusedSectionVars false

theorem pieces_app : ∀ (x r : List UInt8), pieces (x ++ 47 :: r) = pieces x ++ pieces r
  | [], r => by simp [pieces]
  | c :: x, r => by
    have ih := pieces_app x r
    rw [List.cons_append]
    by_cases h : c = 47
    · rw [pieces, if_pos h, ih, pieces, if_pos h]
      rfl
    · rw [pieces, if_neg h, ih, pieces, if_neg h]
      cases e : pieces x with
      | nil => exact absurd e (pieces_ne x)
      | cons a t => rfl
theorem join_app : ∀ (a b : List (List UInt8)), a ≠ [] → b ≠ [] → joinB (a ++ b) = joinB a ++ 47 :: joinB b
  | [], _, h, _ => absurd rfl h
  | [x], b, _, hb => by rw [List.singleton_append, join_cons x hb]; rfl
  | x :: y :: a, b, _, hb => by
    have ih := join_app (y :: a) b (by simp) hb
    rw [List.cons_append, join_cons x (by simp), ih, join_cons x (by simp), List.append_assoc]
    rfl
theorem pieces_len (p : List UInt8) : 1 ≤ (pieces p).length := by
  have := pieces_ne p
  cases e : pieces p with
  | nil => exact absurd e this
  | cons a t => simp
theorem take_len {a p r : List UInt8} (h : p = a ++ r) : a.length ≤ p.length := by rw [h]; simp

section
variable {nm : List UInt8 → Bool}
/-- What a path begins with, up to a slash, is a path. -/
theorem names_app {x r : List UInt8} (h : names nm (x ++ 47 :: r) ≠ []) : names nm (x ++ 47 :: r) = pieces x ++ pieces r ∧ names nm x = pieces x ∧ names nm x ≠ [] := by
  obtain ⟨h1, h2, h3, h4⟩ := names_pieces nm h
  have e := pieces_app x r
  have hx : names nm x = pieces x := by
    unfold names
    rw [if_pos]
    refine ⟨?_, ?_, ?_⟩
    · rw [List.length_append] at h2; omega
    · rw [e, List.all_append, Bool.and_eq_true] at h3; exact h3.1
    · rw [e, List.length_append] at h4; omega
  exact ⟨by rw [h1, e], hx, by rw [hx]; exact pieces_ne x⟩
theorem dir_no {p : List UInt8} (h : names nm p = []) : dirP nm p = [] ∧ baseP nm p = [] := by
  unfold dirP baseP
  rw [h]
  exact ⟨rfl, rfl⟩
theorem dir_one {p : List UInt8} (h : names nm p ≠ []) (hs : (47 : UInt8) ∉ p) : dirP nm p = [] ∧ baseP nm p = p := by
  unfold dirP baseP
  rw [(names_pieces nm h).1, pieces_one p hs]
  exact ⟨rfl, rfl⟩
theorem dir_cut {x r : List UInt8} (h : names nm (x ++ 47 :: r) ≠ []) (hs : (47 : UInt8) ∉ r) : dirP nm (x ++ 47 :: r) = x ∧ baseP nm (x ++ 47 :: r) = r := by
  unfold dirP baseP
  rw [(names_app h).1, pieces_one r hs]
  simp [join_pieces]
/-- Within the root lies each path. -/
theorem within_root (h0 : nm [] = false) (p : List UInt8) : withinP nm p [] = decide (names nm p ≠ []) := by
  have e : names nm [] = [] := by simp [names, pieces, h0]
  unfold withinP beginsP
  rw [e]
  by_cases hp : names nm p = []
  · simp [hp]
  · have := List.length_pos_iff.2 hp
    simp [hp, this]
theorem pre_of_prefix {d p : List UInt8} (h : (d ++ [47]).isPrefixOf p = true) : ∃ r, p = d ++ 47 :: r := by
  obtain ⟨r, e⟩ := List.isPrefixOf_iff_prefix.1 h
  exact ⟨r, by rw [← e]; simp⟩
theorem prefix_of_pre (d r : List UInt8) : (d ++ [47]).isPrefixOf (d ++ 47 :: r) = true := List.isPrefixOf_iff_prefix.2 ⟨r, by simp⟩
/-- Within another path lies what begins with it and a slash. -/
theorem within_dir {d : List UInt8} (hd : d ≠ []) (p : List UInt8) : withinP nm p d = ((d ++ [47]).isPrefixOf p && decide (names nm p ≠ [])) := by
  rw [Bool.eq_iff_iff]
  unfold withinP beginsP
  simp only [Bool.and_eq_true, Bool.or_eq_true, decide_eq_true_eq]
  constructor
  · rintro ⟨⟨⟨hp, hdn⟩, hl⟩, hb1, hb2⟩
    have hdn := hdn.resolve_left hd
    refine ⟨?_, hp⟩
    have e : names nm p = names nm d ++ (names nm p).drop (names nm d).length := by
      conv => lhs; rw [← List.take_append_drop (names nm d).length (names nm p), hb2]
    have hr : (names nm p).drop (names nm d).length ≠ [] := by
      intro k
      have := congrArg List.length k
      rw [List.length_drop, List.length_nil] at this
      omega
    have e2 := join_app _ _ hdn hr
    rw [← e, join_names nm hp, join_names nm hdn] at e2
    rw [e2]
    exact prefix_of_pre _ _
  · rintro ⟨hpre, hp⟩
    obtain ⟨r, rfl⟩ := pre_of_prefix hpre
    obtain ⟨h1, h2, h3⟩ := names_app hp
    rw [h1, h2]
    have hl := pieces_len r
    refine ⟨⟨⟨by simp [pieces_ne], .inr (pieces_ne d)⟩, by simp; omega⟩, by simp, by simp⟩
/-- What a path is moved to. -/
theorem move_no {p f : List UInt8} (t : List UInt8) (h : names nm f = [] ∨ (p ≠ f ∧ withinP nm p f = false)) (hf0 : f ≠ [] ∨ names nm f = []) : moveP nm p f t = p := by
  unfold moveP
  rw [if_neg]
  rintro ⟨h1, h2, h3, h4, h5⟩
  rcases h with h | ⟨hne, hw⟩
  · exact h2 h
  · have hfd : f ≠ [] := hf0.resolve_right h2
    unfold beginsP at h4
    simp only [Bool.and_eq_true, decide_eq_true_eq] at h4
    have : ¬ (names nm f).length < (names nm p).length := by
      intro hl
      have : withinP nm p f = true := by
        unfold withinP beginsP
        simp [h1, h2, hl, h4.1, h4.2]
      rw [hw] at this
      cases this
    have e : names nm p = names nm f := by
      rw [← h4.2, List.take_of_length_le (by omega)]
    exact hne (names_inj nm e h1)
theorem move_self {p : List UInt8} (t : List UInt8) (hp : names nm p ≠ []) : moveP nm p p t = if names nm t ≠ [] then t else p := by
  unfold moveP beginsP
  rw [List.drop_length, List.append_nil, List.take_length]
  by_cases h : names nm t = []
  · simp [h]
  · rw [join_names nm h]
    simp [h, hp]
theorem move_in {f r : List UInt8} (t : List UInt8) (hp : names nm (f ++ 47 :: r) ≠ []) : moveP nm (f ++ 47 :: r) f t = if names nm (t ++ 47 :: r) ≠ [] then t ++ 47 :: r else f ++ 47 :: r := by
  obtain ⟨h1, h2, h3⟩ := names_app hp
  unfold moveP beginsP
  rw [h1, h2]
  simp only [List.length_append, List.take_append_of_le_length (Nat.le_refl _), List.take_length, List.drop_left]
  by_cases ht : names nm t = []
  · have : names nm (t ++ 47 :: r) = [] := by
      by_cases k : names nm (t ++ 47 :: r) = []
      · exact k
      · exact absurd ht (names_app k).2.2
    simp [ht, this]
  · have e : joinB (names nm t ++ pieces r) = t ++ 47 :: r := by
      rw [join_app _ _ ht (pieces_ne r), join_names nm ht, join_pieces]
    rw [e]
    by_cases k : names nm (t ++ 47 :: r) = []
    · simp [k]
    · simp [k, ht, pieces_ne]
/-- How far a path is, as a number: by names, then by bytes. -/
theorem names_take (hs : ∀ x, nm x = true → (47 : UInt8) ∉ x) {p : List UInt8} {m : Nat} (h1 : 1 ≤ m) (hm : m ≤ (names nm p).length) : names nm (joinB ((names nm p).take m)) = (names nm p).take m := by
  have hp : names nm p ≠ [] := fun e => by rw [e] at hm; simp at hm; omega
  obtain ⟨e1, e2, e3, e4⟩ := names_pieces nm hp
  have hne : (names nm p).take m ≠ [] := fun e => by
    have := congrArg List.length e
    rw [List.length_take, List.length_nil] at this
    omega
  have hall : ((names nm p).take m).all nm = true := by
    rw [List.all_eq_true]
    intro x hx
    rw [e1] at hx
    exact List.all_eq_true.1 e3 x (List.mem_of_mem_take hx)
  rw [names_join nm hne hall hs, if_pos]
  refine ⟨?_, ?_⟩
  · by_cases hd : (names nm p).drop m = []
    · have := List.take_append_drop m (names nm p)
      rw [hd, List.append_nil] at this
      rw [this, join_names nm hp]
      exact e2
    · have := join_app _ _ hne hd
      rw [List.take_append_drop, join_names nm hp] at this
      have := congrArg List.length this
      rw [List.length_append] at this
      omega
  · rw [List.length_take, e1]
    omega
theorem dir_take (hs : ∀ x, nm x = true → (47 : UInt8) ∉ x) {p : List UInt8} {m : Nat} (h1 : 1 ≤ m) (hm : m ≤ (names nm p).length) : dirP nm (joinB ((names nm p).take m)) = joinB ((names nm p).take (m - 1)) := by
  unfold dirP
  rw [names_take hs h1 hm, List.dropLast_eq_take, List.length_take, List.take_take]
  congr 2
  omega
theorem join_take_ne (h0 : nm [] = false) {p : List UInt8} {m : Nat} (h1 : 1 ≤ m) (hm : m ≤ (names nm p).length) (hs : ∀ x, nm x = true → (47 : UInt8) ∉ x) : joinB ((names nm p).take m) ≠ [] := by
  intro e
  have := names_take hs h1 hm
  rw [e] at this
  have e0 : names nm [] = [] := by simp [names, pieces, h0]
  rw [e0] at this
  have := congrArg List.length this
  rw [List.length_take, List.length_nil] at this
  omega
/-- The paths within which it lies, the longest first: n of them. -/
def downs (l : List (List UInt8)) (n : Nat) : List (List UInt8) := (List.range n).map fun i => joinB (l.take (l.length - 1 - i))
theorem downs_succ (l : List (List UInt8)) (n : Nat) : downs l (n + 1) = downs l n ++ [joinB (l.take (l.length - 1 - n))] := by
  unfold downs
  rw [List.range_succ, List.map_append]
  rfl
theorem downs_len (l : List (List UInt8)) (n : Nat) : (downs l n).length = n := by simp [downs]
theorem downs_rev (p : List UInt8) : (downs (names nm p) ((names nm p).length - 1)).reverse = upsP nm p := by
  unfold downs upsP
  generalize names nm p = l
  apply List.ext_getElem
  · simp
  · intro i h1 h2
    simp only [List.length_reverse, List.length_map, List.length_range] at h1
    rw [List.getElem_reverse, List.getElem_map, List.getElem_map, List.getElem_range, List.getElem_range, List.length_map, List.length_range, show l.length - 1 - (l.length - 1 - 1 - i) = i + 1 by omega]
theorem dir_is (p : List UInt8) : dirP nm p = joinB ((names nm p).take ((names nm p).length - 1)) := by
  unfold dirP
  rw [List.dropLast_eq_take]

end
/-- Lists of texts, held against each other: below 0, 0, above 0. -/
def cmpL : List (List UInt8) → List (List UInt8) → Int
  | [], [] => 0
  | [], _ :: _ => -1
  | _ :: _, [] => 1
  | x :: a, y :: b => if x = y then cmpL a b else if x < y then -1 else 1
theorem cmpL_lt : ∀ (a b : List (List UInt8)), cmpL a b < 0 ↔ lessL a b = true
  | [], [] => by simp [cmpL, lessL]
  | [], _ :: _ => by simp [cmpL, lessL]
  | _ :: _, [] => by simp [cmpL, lessL]
  | x :: a, y :: b => by
    rw [cmpL, lessL]
    by_cases h : x = y
    · rw [if_pos h, if_pos h]; exact cmpL_lt a b
    · rw [if_neg h, if_neg h]
      by_cases k : x < y <;> simp [k]
theorem cmpL_eq : ∀ (a b : List (List UInt8)), cmpL a b = 0 ↔ a = b
  | [], [] => by simp [cmpL]
  | [], _ :: _ => by simp [cmpL]
  | _ :: _, [] => by simp [cmpL]
  | x :: a, y :: b => by
    rw [cmpL]
    by_cases h : x = y
    · rw [if_pos h, cmpL_eq a b]; simp [h]
    · rw [if_neg h]
      by_cases k : x < y <;> simp [k, h]
theorem cmpL_step {a b : List (List UInt8)} {i : Nat} (ha : i < a.length) (hb : i < b.length) : cmpL (a.drop i) (b.drop i) = if a[i] = b[i] then cmpL (a.drop (i + 1)) (b.drop (i + 1)) else if a[i] < b[i] then -1 else 1 := by
  rw [List.drop_eq_getElem_cons ha, List.drop_eq_getElem_cons hb, cmpL]
section
variable (nm : List UInt8 → Bool)
/-- First by names, then by bytes. -/
theorem less_or (a b : List UInt8) (c : Int) (hc : c < 0 ↔ a < b) : lessP nm a b = decide ((if cmpL (names nm a) (names nm b) = 0 then c else cmpL (names nm a) (names nm b)) < 0) := by
  rw [Bool.eq_iff_iff, decide_eq_true_eq]
  by_cases h : cmpL (names nm a) (names nm b) = 0
  · rw [if_pos h, hc]
    have e := (cmpL_eq _ _).1 h
    unfold lessP
    by_cases ha : names nm a = []
    · rw [if_pos ⟨ha, by rw [← e]; exact ha⟩, decide_eq_true_eq]
    · rw [if_neg (fun k => ha k.1), e, lessL_irrefl]
      have := names_inj nm e ha
      subst this
      simp [List.lt_irrefl]
  · rw [if_neg h, cmpL_lt]
    unfold lessP
    rw [if_neg]
    rintro ⟨k1, k2⟩
    rw [k1, k2] at h
    exact h rfl
end
end Go.Proofs.YtaepfahpbnpeiaaGreatDoor
namespace Go.Proofs.YtaepfahpbnpeiaaGreatDoor
open Go.RowKit
set_option linter.unusedVariables false

def pnames (s : ByteArray) : List (List UInt8) := names nameP s.data.toList
def RightC : Prop := ∀ (s : ByteArray) (w : World), s.size ≤ 100000 → Calls Tryz.prog 57 #[.string s] w fun e w' => e = .returned (.bool (decide (pnames s ≠ []))) ∧ Below w.heap.size w w'
def SplitC : Prop := ∀ (s : ByteArray) (w : World), s.size ≤ 100000 → Calls Tryz.prog 93 #[.string s] w (RowLeft w (pnames s))
def DirC : Prop := ∀ (s : ByteArray) (w : World), s.size ≤ 100000 → Calls Tryz.prog 95 #[.string s] w fun e w' => e = .returned (.string (toB (dirP nameP s.data.toList))) ∧ Below w.heap.size w w'
def LessC : Prop := ∀ (s t : ByteArray) (w : World), s.size ≤ 100000 → t.size ≤ 100000 → Calls Tryz.prog 56 #[.string s, .string t] w fun e w' => e = .returned (.bool (lessP nameP s.data.toList t.data.toList)) ∧ Below w.heap.size w w'
end Go.Proofs.YtaepfahpbnpeiaaGreatDoor
namespace Go.Proofs.YtaepfahpbnpeiaaGreatDoor
open Go.RowKit
set_option linter.unusedVariables false

/-- Where a path stands in files; below 0: nowhere. -/
def findZ (fs : List Fm) (p : ByteArray) : Int := match fs.findIdx? fun f => decide (f.p = p) with
  | some i => i
  | none => -1
theorem findZ_at {fs : List Fm} {p : ByteArray} {k : Nat} (hk : k < fs.length) (he : fs[k].p = p) (hn : ∀ j (hj : j < fs.length), j < k → fs[j].p ≠ p) : findZ fs p = k := by
  have : fs.findIdx? (fun f => decide (f.p = p)) = some k := by
    rw [List.findIdx?_eq_some_iff_getElem]
    exact ⟨hk, by simpa using he, fun j hj => by simpa using hn j (by omega) hj⟩
  unfold findZ
  rw [this]
theorem findZ_none {fs : List Fm} {p : ByteArray} (hn : ∀ j (hj : j < fs.length), fs[j].p ≠ p) : findZ fs p = -1 := by
  have : fs.findIdx? (fun f => decide (f.p = p)) = none := by
    rw [List.findIdx?_eq_none_iff]
    intro f hf
    obtain ⟨j, hj, rfl⟩ := List.getElem_of_mem hf
    simpa using hn j hj
  unfold findZ
  rw [this]
theorem findZ_cases (fs : List Fm) (p : ByteArray) : (∃ k, ∃ hk : k < fs.length, findZ fs p = k ∧ fs[k].p = p ∧ ∀ j (hj : j < fs.length), j < k → fs[j].p ≠ p) ∨ (findZ fs p = -1 ∧ ∀ j (hj : j < fs.length), fs[j].p ≠ p) := by
  unfold findZ
  cases h : fs.findIdx? (fun f => decide (f.p = p)) with
  | none =>
    rw [List.findIdx?_eq_none_iff] at h
    exact .inr ⟨rfl, fun j hj => by simpa using h fs[j] (List.getElem_mem _)⟩
  | some k =>
    rw [List.findIdx?_eq_some_iff_getElem] at h
    obtain ⟨hk, h1, h2⟩ := h
    exact .inl ⟨k, hk, rfl, by simpa using h1, fun j hj hjk => by simpa using h2 j hjk⟩
theorem str_ne {s t : ByteArray} (h : s ≠ t) : (s.toList == t.toList) = false := by
  rw [beq_eq_false_iff_ne]
  intro e
  rw [toList_eq, toList_eq] at e
  exact h (bytes_inj e)
theorem str_ne_empty {s : ByteArray} (h : s ≠ ⟨#[]⟩) : (s.toList == []) = false := by
  rw [beq_eq_false_iff_ne]
  intro e
  rw [toList_eq] at e
  exact h (bytes_inj e)

set_option maxHeartbeats 1000000 in
set_option maxRecDepth 100000 in
theorem reffind_any (A : Option Addr) (fs : List Fm) (cap : Nat) (p : ByteArray) (w : World) (hs : Fs w w.heap.size A fs) (hn : fs.length ≤ 1000000) :
    Calls Tryz.prog 33 #[.slice A fs.length cap, .string p] w fun e w' => e = .returned (.int .i64 (findZ fs p)) ∧ w' = w := by
  have HS := Lib.hid hs
  clear hs
  go_enter Tryz.func33, Tryz.ntmps33
  go_wp2
  go_loopw [5] (fun i wr => ∃ k : Nat, k ≤ fs.length ∧ i = .int .i64 (k : Int) ∧ Hid (∀ j (hj : j < fs.length), j < k → fs[j].p ≠ p) ∧ wr = w) (fun i _ => fs.length - (intOf i).toNat)
  case atStart => exact ⟨0, Nat.zero_le _, rfl, fun j _ h => absurd h (by omega), rfl⟩
  case round =>
    obtain ⟨k, hk, rfl, hall, rfl⟩ := hrel
    by_cases hlt : k < fs.length
    · obtain ⟨b, off, rfl, hb, c0, c1, c2⟩ := HS.out.get hlt
      clear c1 c2
      by_cases he : fs[k].p = p
      · have hfin := Lib.hid (findZ_at hlt he hall.out)
        have hbe : (p.toList == p.toList) = true := by simp
        rw [he] at c0
        clear hall he
        go_wp2
        go_ret
        rw [hfin.out]
        exact ⟨rfl, rfl⟩
      · have hyes : Hid (∀ j (hj : j < fs.length), j < k + 1 → fs[j].p ≠ p) := by
          intro j hj hjk
          by_cases hjk2 : j = k
          · subst hjk2; exact he
          · exact hall.out j hj (by omega)
        have hbe := str_ne he
        generalize fs[k].p = s at *
        clear hall he
        go_wp2
        go_roundw
        case rel => exact ⟨k + 1, by omega, by go_num, hyes, by first | rfl | trivial⟩
        case measure => simp [intOf]; omega
    · obtain rfl : k = fs.length := by omega
      have hfin := Lib.hid (findZ_none fun j hj => hall.out j hj hj)
      clear hall
      go_wp2
      go_ret
      rw [hfin.out]
      exact ⟨rfl, rfl⟩

theorem findZ_range (fs : List Fm) (p : ByteArray) (hn : fs.length ≤ 1000000) : -1 ≤ findZ fs p ∧ findZ fs p ≤ 1000000 ∧ (0 ≤ findZ fs p → ∃ k, ∃ hk : k < fs.length, findZ fs p = k ∧ fs[k].p = p) := by
  rcases findZ_cases fs p with ⟨k, hk, h1, h2, _⟩ | ⟨h1, _⟩
  · exact ⟨by omega, by omega, fun _ => ⟨k, hk, h1, h2⟩⟩
  · exact ⟨by omega, by omega, fun h => by omega⟩
/-- Is a path a directory, or the root? -/
def dirZ (fs : List Fm) (p : ByteArray) : Bool := decide (p = ⟨#[]⟩) || fs.any fun f => decide (f.p = p) && f.d
/-- A path once alone. -/
def OnceF (fs : List Fm) : Prop := fs.Pairwise fun f g => f.p ≠ g.p
/-- Which file is found first. -/
def dirAt (fs : List Fm) (p : ByteArray) : Bool := decide (p = ⟨#[]⟩) || (match fs.find? fun f => decide (f.p = p) with
  | some f => f.d
  | none => false)
theorem find_at {fs : List Fm} {p : ByteArray} {k : Nat} (hk : k < fs.length) (he : fs[k].p = p) (hn : ∀ j (hj : j < fs.length), j < k → fs[j].p ≠ p) : fs.find? (fun f => decide (f.p = p)) = some fs[k] := by
  rw [List.find?_eq_some_iff_getElem]
  exact ⟨by simpa using he, k, hk, rfl, fun j hj => by simpa using hn j (by omega) hj⟩
theorem find_none {fs : List Fm} {p : ByteArray} (hn : ∀ j (hj : j < fs.length), fs[j].p ≠ p) : fs.find? (fun f => decide (f.p = p)) = none := by
  rw [List.find?_eq_none]
  intro f hf
  obtain ⟨j, hj, rfl⟩ := List.getElem_of_mem hf
  simpa using hn j hj
set_option maxHeartbeats 1000000 in
set_option maxRecDepth 100000 in
theorem refdir_any (A : Option Addr) (fs : List Fm) (cap : Nat) (p : ByteArray) (w : World) (hs : Fs w w.heap.size A fs) (hn : fs.length ≤ 1000000) :
    Calls Tryz.prog 60 #[.slice A fs.length cap, .string p] w fun e w' => e = .returned (.bool (dirAt fs p)) ∧ w' = w := by
  have C := Lib.hid (reffind_any A fs cap p w hs hn)
  by_cases h0 : p = ⟨#[]⟩
  · subst h0
    have e : dirAt fs ⟨#[]⟩ = true := by simp [dirAt]
    rw [e]
    clear e hs
    generalize findZ fs ⟨#[]⟩ = z at *
    go_enter Tryz.func60, Tryz.ntmps60
    go_wp2_with fail
    refine C.out.mono ?_
    rintro e w1 ⟨rfl, rfl⟩
    go_wp2
    go_ret
    exact ⟨rfl, rfl⟩
  · have hb : (p.toList == []) = false := str_ne_empty h0
    have hb2 : ¬ (p.toList = []) := by simpa using hb
    rcases findZ_cases fs p with ⟨k, hk, h1, h2, h3⟩ | ⟨h1, h3⟩
    · have e : dirAt fs p = fs[k].d := by simp [dirAt, h0, find_at hk h2 h3]
      rw [e]
      rw [h1] at C
      obtain ⟨b, off, rfl, _, c0, c1, c2⟩ := hs.get hk
      clear c0 c2 e h1 h2 h3 h0 hs
      have q1 : (0 : Int) ≤ (k : Int) := by omega
      generalize fs[k].d = d at *
      go_enter Tryz.func60, Tryz.ntmps60
      go_wp2_with fail
      refine C.out.mono ?_
      rintro e w1 ⟨rfl, rfl⟩
      go_wp2
      go_ret
      exact ⟨rfl, rfl⟩
    · have e : dirAt fs p = false := by simp [dirAt, h0, find_none h3]
      rw [e]
      rw [h1] at C
      clear e h1 h3 h0 hs
      go_enter Tryz.func60, Tryz.ntmps60
      go_wp2_with fail
      refine C.out.mono ?_
      rintro e w1 ⟨rfl, rfl⟩
      go_wp2
      go_ret
      exact ⟨rfl, rfl⟩
theorem names_short (p : List UInt8) : (names nameP p).length ≤ 16 ∧ ∀ m, (joinB ((names nameP p).take m)).length ≤ 200 := by
  by_cases h : names nameP p = []
  · rw [h]; simp [joinB]
  · refine ⟨by rw [(names_pieces nameP h).1]; exact (names_pieces nameP h).2.2.2, fun m => ?_⟩
    have h1 := join_take_le (names nameP p) m
    rw [join_names nameP h] at h1
    have := (names_pieces nameP h).2.1
    omega
set_option maxHeartbeats 1000000 in
set_option maxRecDepth 100000 in
theorem refup_any (s : ByteArray) (w : World) (hs : s.size ≤ 9223372036854775807) :
    Calls Tryz.prog 61 #[.string s] w fun e w' => e = .returned (.string (toB (dirP nameP s.data.toList))) ∧ Below w.heap.size w w' := by
  have CN := refnames_any s w hs
  obtain ⟨hl, hj⟩ := names_short s.data.toList
  unfold dirP
  generalize names nameP s.data.toList = n at *
  have C := Lib.hid CN
  clear CN
  by_cases h0 : n.length = 0
  · obtain rfl := List.length_eq_zero_iff.1 h0
    go_enter Tryz.func61, Tryz.ntmps61
    go_wp2_with fail
    refine C.out.mono ?_
    rintro e w1 ⟨v, rfl, ho, hb⟩
    obtain ⟨A, cap, rfl, _, _, _⟩ := ho.strs
    have HB := Lib.hid hb
    clear ho hb
    simp only [List.length_nil]
    go_wp2
    go_ret
    exact ⟨rfl, HB.out⟩
  · rw [List.dropLast_eq_take]
    obtain ⟨m, hm⟩ : ∃ m, n.length - 1 = m := ⟨_, rfl⟩
    rw [hm]
    have hj1 := hj m
    have hw : IntKind.i64.wrap ((n.length : Int) - 1) = (m : Int) := (IntWalk.i64_in _ (by omega)).trans (by omega)
    have hb0 : ((n.length : Int) == 0) = false := beq_eq_false_iff_ne.2 (by omega)
    clear hj
    go_enter Tryz.func61, Tryz.ntmps61
    go_wp2_with fail
    refine C.out.mono ?_
    rintro e w1 ⟨v, rfl, ho, hb⟩
    obtain ⟨A, cap, rfl, hst, _, _⟩ := ho.strs
    obtain ⟨A', cap', ld, hld, hp, hrun⟩ := part_of A n cap 0 m ho.at_.2.1 (Nat.zero_le _) (by omega)
    rw [List.drop_zero, Nat.sub_zero] at hld
    rw [← hld] at hj1
    have HLD := Lib.hid hld
    have hrun2 := fun w => hrun none (some (.int .i64 (m : Int))) w (.inr ⟨rfl, rfl⟩) (.inl rfl)
    have CJ := Lib.hid (refjoin_any A' ld cap' w1 (hp.strs _ _ hst) (by rw [hld, List.length_take]; omega) (by omega))
    have HB := Lib.hid hb
    clear ho hb hst hp hrun hld hj1 hm
    go_wp2_with fail
    refine CJ.out.mono ?_
    rintro e w2 ⟨rfl, rfl⟩
    go_wp2
    go_ret
    rw [← HLD.out]
    exact ⟨rfl, HB.out⟩
end Go.Proofs.YtaepfahpbnpeiaaGreatDoor
