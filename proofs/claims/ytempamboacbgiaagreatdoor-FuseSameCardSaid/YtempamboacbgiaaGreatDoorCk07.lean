/- Paths, plainly: where a path is cut, what lies within it, how it is moved, within which it lies; for any test of names that no slash passes. A part of a row of strings: what slicing gives, in one way. The reference's Begins and Less of layer 5. What package path's calls are to do, as words: each is to be proved of the landed code. Package path's Split and Right: strings.Split at a slash, and slices.ContainsFunc of what is no name. Words for a step's cells. -/
import Derived.Test.YtempamboacbgiaaGreatDoorCk01
import Derived.Test.YtempamboacbgiaaGreatDoorCk02
import Derived.Test.YtempamboacbgiaaGreatDoorShelf
import Derived.Test.YtempamboacbgiaaGreatDoorCk06
import Derived.Test.YtempamboacbgiaaGreatDoorCk05
import Derived.Test.YtempamboacbgiaaGreatDoorCk04
namespace Go.Proofs.YtempamboacbgiaaGreatDoor
set_option linter.unusedVariables false
set_option linter.unusedSectionVars false

theorem pieces_app : ∀ (x r : List UInt8), pieces (x ++ 47 :: r) = pieces x ++ pieces r
  | [], r => by simp [pieces]
  | c :: x, r => by
    have ih := pieces_app x r
    rw [List.cons_append]
    by_cases h : c = 47
    · rw [pieces, if_pos h, ih, pieces, if_pos h]
      rfl
    · rw [pieces, if_neg h, ih, pieces, if_neg h]
      cases e : pieces x with
      | nil => exact absurd e (pieces_ne x)
      | cons a t => rfl
theorem join_app : ∀ (a b : List (List UInt8)), a ≠ [] → b ≠ [] → joinB (a ++ b) = joinB a ++ 47 :: joinB b
  | [], _, h, _ => absurd rfl h
  | [x], b, _, hb => by rw [List.singleton_append, join_cons x hb]; rfl
  | x :: y :: a, b, _, hb => by
    have ih := join_app (y :: a) b (by simp) hb
    rw [List.cons_append, join_cons x (by simp), ih, join_cons x (by simp), List.append_assoc]
    rfl
section
variable {nm : List UInt8 → Bool}
/-- What a path begins with, up to a slash, is a path. -/
theorem names_app {x r : List UInt8} (h : names nm (x ++ 47 :: r) ≠ []) : names nm (x ++ 47 :: r) = pieces x ++ pieces r ∧ names nm x = pieces x ∧ names nm x ≠ [] := by
  obtain ⟨h1, h2, h3, h4⟩ := names_pieces nm h
  have e := pieces_app x r
  have hx : names nm x = pieces x := by
    unfold names
    rw [if_pos]
    refine ⟨?_, ?_, ?_⟩
    · rw [List.length_append] at h2; omega
    · rw [e, List.all_append, Bool.and_eq_true] at h3; exact h3.1
    · rw [e, List.length_append] at h4; omega
  exact ⟨by rw [h1, e], hx, by rw [hx]; exact pieces_ne x⟩
theorem dir_no {p : List UInt8} (h : names nm p = []) : dirP nm p = [] ∧ baseP nm p = [] := by
  unfold dirP baseP
  rw [h]
  exact ⟨rfl, rfl⟩
theorem dir_one {p : List UInt8} (h : names nm p ≠ []) (hs : (47 : UInt8) ∉ p) : dirP nm p = [] ∧ baseP nm p = p := by
  unfold dirP baseP
  rw [(names_pieces nm h).1, pieces_one p hs]
  exact ⟨rfl, rfl⟩
theorem dir_cut {x r : List UInt8} (h : names nm (x ++ 47 :: r) ≠ []) (hs : (47 : UInt8) ∉ r) : dirP nm (x ++ 47 :: r) = x ∧ baseP nm (x ++ 47 :: r) = r := by
  unfold dirP baseP
  rw [(names_app h).1, pieces_one r hs]
  simp [join_pieces]
/-- How far a path is, as a number: by names, then by bytes. -/
theorem names_take (hs : ∀ x, nm x = true → (47 : UInt8) ∉ x) {p : List UInt8} {m : Nat} (h1 : 1 ≤ m) (hm : m ≤ (names nm p).length) : names nm (joinB ((names nm p).take m)) = (names nm p).take m := by
  have hp : names nm p ≠ [] := fun e => by rw [e] at hm; simp at hm; omega
  obtain ⟨e1, e2, e3, e4⟩ := names_pieces nm hp
  have hne : (names nm p).take m ≠ [] := fun e => by
    have := congrArg List.length e
    rw [List.length_take, List.length_nil] at this
    omega
  have hall : ((names nm p).take m).all nm = true := by
    rw [List.all_eq_true]
    intro x hx
    rw [e1] at hx
    exact List.all_eq_true.1 e3 x (List.mem_of_mem_take hx)
  rw [names_join nm hne hall hs, if_pos]
  refine ⟨?_, ?_⟩
  · by_cases hd : (names nm p).drop m = []
    · have := List.take_append_drop m (names nm p)
      rw [hd, List.append_nil] at this
      rw [this, join_names nm hp]
      exact e2
    · have := join_app _ _ hne hd
      rw [List.take_append_drop, join_names nm hp] at this
      have := congrArg List.length this
      rw [List.length_append] at this
      omega
  · rw [List.length_take, e1]
    omega
theorem dir_is (p : List UInt8) : dirP nm p = joinB ((names nm p).take ((names nm p).length - 1)) := by
  unfold dirP
  rw [List.dropLast_eq_take]

end
/-- Lists of texts, held against each other: below 0, 0, above 0. -/
def cmpL : List (List UInt8) → List (List UInt8) → Int
  | [], [] => 0
  | [], _ :: _ => -1
  | _ :: _, [] => 1
  | x :: a, y :: b => if x = y then cmpL a b else if x < y then -1 else 1
theorem cmpL_lt : ∀ (a b : List (List UInt8)), cmpL a b < 0 ↔ lessL a b = true
  | [], [] => by simp [cmpL, lessL]
  | [], _ :: _ => by simp [cmpL, lessL]
  | _ :: _, [] => by simp [cmpL, lessL]
  | x :: a, y :: b => by
    rw [cmpL, lessL]
    by_cases h : x = y
    · rw [if_pos h, if_pos h]; exact cmpL_lt a b
    · rw [if_neg h, if_neg h]
      by_cases k : x < y <;> simp [k]
theorem cmpL_eq : ∀ (a b : List (List UInt8)), cmpL a b = 0 ↔ a = b
  | [], [] => by simp [cmpL]
  | [], _ :: _ => by simp [cmpL]
  | _ :: _, [] => by simp [cmpL]
  | x :: a, y :: b => by
    rw [cmpL]
    by_cases h : x = y
    · rw [if_pos h, cmpL_eq a b]; simp [h]
    · rw [if_neg h]
      by_cases k : x < y <;> simp [k, h]
theorem cmpL_step {a b : List (List UInt8)} {i : Nat} (ha : i < a.length) (hb : i < b.length) : cmpL (a.drop i) (b.drop i) = if a[i] = b[i] then cmpL (a.drop (i + 1)) (b.drop (i + 1)) else if a[i] < b[i] then -1 else 1 := by
  rw [List.drop_eq_getElem_cons ha, List.drop_eq_getElem_cons hb, cmpL]
section
variable (nm : List UInt8 → Bool)
/-- First by names, then by bytes. -/
theorem less_or (a b : List UInt8) (c : Int) (hc : c < 0 ↔ a < b) : lessP nm a b = decide ((if cmpL (names nm a) (names nm b) = 0 then c else cmpL (names nm a) (names nm b)) < 0) := by
  rw [Bool.eq_iff_iff, decide_eq_true_eq]
  by_cases h : cmpL (names nm a) (names nm b) = 0
  · rw [if_pos h, hc]
    have e := (cmpL_eq _ _).1 h
    unfold lessP
    by_cases ha : names nm a = []
    · rw [if_pos ⟨ha, by rw [← e]; exact ha⟩, decide_eq_true_eq]
    · rw [if_neg (fun k => ha k.1), e, lessL_irrefl]
      have := names_inj nm e ha
      subst this
      simp [List.lt_irrefl]
  · rw [if_neg h, cmpL_lt]
    unfold lessP
    rw [if_neg]
    rintro ⟨k1, k2⟩
    rw [k1, k2] at h
    exact h rfl
end
end Go.Proofs.YtempamboacbgiaaGreatDoor
namespace Go.Proofs.YtempamboacbgiaaGreatDoor
open Go.RowKit
set_option linter.unusedVariables false

/-- A part of a row of strings: its address, its room. -/
structure Part (A : Option Addr) (A' : Option Addr) (cap' : Nat) (ls ld : List (List UInt8)) (i : Nat) : Prop where
  len : i + ld.length ≤ ls.length
  eq : ld = (ls.drop i).take ld.length
  strs : ∀ (w : World) (B : Nat), Strs w B A (toBs ls) → Strs w B A' (toBs ld)
  room : Room A' ld.length cap'
theorem size_str : (Tryz.prog.info? 9).map (·.size) = some 1 := by kernel_rfl
theorem run_slice_strs (A : Option Addr) (n cap i j : Nat) (low high : Option Value) (w : World) (hij : i ≤ j) (hj : j ≤ n) (hn : n ≤ cap) (hlow : low = some (.int .i64 (i : Int)) ∨ (low = none ∧ i = 0)) (hhigh : high = some (.int .i64 (j : Int)) ∨ (high = none ∧ j = n)) :
    (Instr.slice 36 (.slice A n cap) low high none).run Tryz.prog w = .ok (.slice (if cap = i then A else A.map (·.add i)) (j - i) (cap - i)) w := by
  have hb : ∀ w, (Instr.sliceBounds true n cap low high none).run Tryz.prog w = .ok (i, j, cap) w := by
    intro w
    have hi2 : (i : Int) ≤ (j : Int) := by omega
    have hj2 : (j : Int) ≤ (cap : Int) := by omega
    have hi3 : (i : Int) ≤ (n : Int) := by omega
    rcases hlow with rfl | ⟨rfl, rfl⟩ <;> rcases hhigh with rfl | ⟨rfl, rfl⟩ <;> simp [Instr.sliceBounds, Instr.sliceBound, asIntOf, go_sem, hij, show j ≤ cap by omega] <;> intros <;> omega
  obtain ⟨d, hd, hs⟩ : ∃ d, Tryz.prog.info? 9 = some d ∧ d.size = 1 := by
    have := size_str
    cases h : Tryz.prog.info? 9 with
    | none => rw [h] at this; cases this
    | some d => rw [h] at this; exact ⟨d, rfl, by simpa using this⟩
  unfold Instr.slice
  rw [Sem.run_bind, run_underlying Tryz.underlying36, Result.andThen_ok]
  simp only []
  rw [Sem.run_bind, hb, Result.andThen_ok]
  simp [sizeOf, typeInfo, hd, hs, Sem.run_bind]
theorem part_of (A : Option Addr) (ls : List (List UInt8)) (cap i j : Nat) (hr : Room A ls.length cap) (hij : i ≤ j) (hj : j ≤ ls.length) :
    ∃ A' cap' ld, ld = (ls.drop i).take (j - i) ∧ Part A A' cap' ls ld i ∧ ∀ (low high : Option Value) (w : World), (low = some (.int .i64 (i : Int)) ∨ (low = none ∧ i = 0)) → (high = some (.int .i64 (j : Int)) ∨ (high = none ∧ j = ls.length)) →
      (Instr.slice 36 (.slice A ls.length cap) low high none).run Tryz.prog w = .ok (.slice A' ld.length cap') w := by
  have hl : ((ls.drop i).take (j - i)).length = j - i := by rw [List.length_take, List.length_drop]; omega
  refine ⟨if cap = i then A else A.map (·.add i), cap - i, (ls.drop i).take (j - i), rfl, ⟨by rw [hl]; omega, by rw [hl], fun w B hs => ?_, ?_⟩, fun low high w h1 h2 => ?_⟩
  · by_cases hc : cap = i
    · have hz : (ls.drop i).take (j - i) = [] := by
        rw [← List.length_eq_zero_iff, hl]
        have := hr.2
        omega
      rw [hz]
      exact Strs.none_
    · rw [if_neg hc]
      refine hs.part i (j - i) _ fun b off hA hlt => ?_
      rw [hA, Option.map_some, add_row]
  · rw [hl]
    refine ⟨fun hA => ?_, by have := hr.2; omega⟩
    by_cases hc : cap = i
    · omega
    · rw [if_neg hc] at hA
      have : A = none := by cases A <;> simp_all
      have := hr.1 this
      omega
  · rw [hl]
    exact run_slice_strs A ls.length cap i j low high w hij hj hr.2 h1 h2
/-- What is behind i lines. -/
theorem part_from (A : Option Addr) (ls : List (List UInt8)) (cap i : Nat) (hr : Room A ls.length cap) (hi : i ≤ ls.length) :
    ∃ A' cap' ld, ld = ls.drop i ∧ Part A A' cap' ls ld i ∧ ∀ (w : World), (Instr.slice 36 (.slice A ls.length cap) (some (.int .i64 (i : Int))) none none).run Tryz.prog w = .ok (.slice A' ld.length cap') w := by
  obtain ⟨A', cap', ld, h1, h2, h3⟩ := part_of A ls cap i ls.length hr hi (Nat.le_refl _)
  refine ⟨A', cap', ld, ?_, h2, fun w => h3 _ _ w (.inl rfl) (.inr ⟨rfl, rfl⟩)⟩
  rw [h1, List.take_of_length_le (by rw [List.length_drop]; omega)]
/-- Lines i to j. -/
theorem part_mid (A : Option Addr) (ls : List (List UInt8)) (cap i j : Nat) (hr : Room A ls.length cap) (hij : i ≤ j) (hj : j ≤ ls.length) :
    ∃ A' cap' ld, ld = (ls.drop i).take (j - i) ∧ Part A A' cap' ls ld i ∧ ∀ (w : World), (Instr.slice 36 (.slice A ls.length cap) (some (.int .i64 (i : Int))) (some (.int .i64 (j : Int))) none).run Tryz.prog w = .ok (.slice A' ld.length cap') w := by
  obtain ⟨A', cap', ld, h1, h2, h3⟩ := part_of A ls cap i j hr hij hj
  exact ⟨A', cap', ld, h1, h2, fun w => h3 _ _ w (.inl rfl) (.inl rfl)⟩
end Go.Proofs.YtempamboacbgiaaGreatDoor
namespace Go.Proofs.YtempamboacbgiaaGreatDoor
open Go.RowKit
set_option linter.unusedVariables false

theorem rsame_l (A A2 : Option Addr) (la lc : List (List UInt8)) (cap cap2 : Nat) (w : World) (d : Bool) (hd : decide (la = lc) = d) (hs : Strs w w.heap.size A (toBs la)) (ht : Strs w w.heap.size A2 (toBs lc)) (hn : la.length ≤ 1000000) (hn2 : lc.length ≤ 1000000) :
    Calls Tryz.prog 28 #[.slice A la.length cap, .slice A2 lc.length cap2] w fun e w' => e = .returned (.bool d) ∧ ∃ m, w' = w.drewN m := by
  have h := same_q A A2 (toBs la) (toBs lc) cap cap2 w hs ht (by rw [toBs_len]; omega) (by rw [toBs_len]; omega)
  rw [toBs_len, toBs_len, show decide (toBs la = toBs lc) = d from by
    rw [← hd]
    congr 1
    refine propext ⟨fun h => ?_, fun h => by rw [h]⟩
    have := congrArg lists h
    rwa [lists_toBs, lists_toBs] at this] at h
  exact h
theorem rsame_d (A A2 : Option Addr) (la lc : List (List UInt8)) (cap cap2 : Nat) (w : World) (d : Bool) (hd : decide (la = lc) = d) (hs : Strs w w.heap.size A (toBs la)) (ht : Strs w w.heap.size A2 (toBs lc)) (hn : la.length ≤ 1000000) (hn2 : lc.length ≤ 1000000) (n : Nat) :
    Calls Tryz.prog 28 #[.slice A la.length cap, .slice A2 lc.length cap2] (w.drewN n) fun e w' => e = .returned (.bool d) ∧ ∃ m, w' = w.drewN m :=
  Calls.quiet_of (rsame_l A A2 la lc cap cap2 (w.drewN n) d hd hs ht hn hn2)
theorem bless_eqs (s t : ByteArray) : Op.bytesLess s.toList t.toList = decide (s.data.toList < t.data.toList) := by
  rw [bytesLess_eq, toList_eq, toList_eq]

end Go.Proofs.YtempamboacbgiaaGreatDoor
namespace Go.Proofs.YtempamboacbgiaaGreatDoor
open Go.RowKit
set_option linter.unusedVariables false

def pnames (s : ByteArray) : List (List UInt8) := names nameP s.data.toList
def RightC : Prop := ∀ (s : ByteArray) (w : World), s.size ≤ 100000 → Calls Tryz.prog 40 #[.string s] w fun e w' => e = .returned (.bool (decide (pnames s ≠ []))) ∧ Below w.heap.size w w'
def DirC : Prop := ∀ (s : ByteArray) (w : World), s.size ≤ 100000 → Calls Tryz.prog 73 #[.string s] w fun e w' => e = .returned (.string (toB (dirP nameP s.data.toList))) ∧ Below w.heap.size w w'
def LessC : Prop := ∀ (s t : ByteArray) (w : World), s.size ≤ 100000 → t.size ≤ 100000 → Calls Tryz.prog 39 #[.string s, .string t] w fun e w' => e = .returned (.bool (lessP nameP s.data.toList t.data.toList)) ∧ Below w.heap.size w w'
end Go.Proofs.YtempamboacbgiaaGreatDoor
namespace Go.Proofs.YtempamboacbgiaaGreatDoor
open Go.RowKit
set_option linter.unusedVariables false

theorem strsplit_any (s : ByteArray) (w : World) (hs : s.size ≤ 1000000) : Calls Tryz.prog 98 #[.string s, .string ⟨#[47]⟩] w fun e w' => e = .returned (.slice (some ⟨w.heap.size, 0, none⟩) (pieces s.data.toList).length (pieces s.data.toList).length) ∧ w' = w.alloc (.cells ((toBs (pieces s.data.toList)).map Value.string).toArray 9) := split_slash Tryz.lays146 (by kernel_rfl) s w (by omega)

theorem wrong_any (s : ByteArray) (w : World) (hs : s.size ≤ 1000000) :
    Calls Tryz.prog 121 #[.string s] w fun e w' => e = .returned (.bool (!rightB s)) ∧ Below w.heap.size w w' := by
  have C := Lib.hid (right_any s w (by omega))
  generalize rightB s = b at *
  go_enter Tryz.func121, Tryz.ntmps121
  go_wp2_with fail
  refine C.out.mono ?_
  rintro e w1 ⟨rfl, hb⟩
  go_wp2
  go_ret
  exact ⟨rfl, hb⟩

theorem all_no {ls : List (List UInt8)} {k : Nat} (hk : k < ls.length) (h : nameP ls[k] = false) : ls.all nameP = false := by
  rw [List.all_eq_false]
  exact ⟨ls[k], List.getElem_mem _, by rw [h]; exact Bool.false_ne_true⟩
theorem all_yes {ls : List (List UInt8)} (h : ∀ k (hk : k < ls.length), nameP ls[k] = true) : ls.all nameP = true := by
  rw [List.all_eq_true]
  intro x hx
  obtain ⟨k, hk, rfl⟩ := List.getElem_of_mem hx
  exact h k hk

set_option maxHeartbeats 1000000 in
set_option maxRecDepth 100000 in
theorem indexfunc_any (A : Option Addr) (ls : List (List UInt8)) (cap : Nat) (w : World) (hs : Strs w w.heap.size A (toBs ls)) (hn : ls.length ≤ 1000000) (hl : ∀ x ∈ ls, x.length ≤ 1000000) :
    Calls Tryz.prog 137 #[.slice A ls.length cap, .func (.func 121) #[] #[]] w fun e w' => ∃ r : Int, e = .returned (.int .i64 r) ∧ decide (0 ≤ r) = !(ls.all nameP) ∧ Below w.heap.size w w' := by
  have HS := Lib.hid hs
  have HL := Lib.hid hl
  clear hs hl
  go_enter Tryz.func137, Tryz.ntmps137
  go_wp2
  go_loopw [8] (fun i wr => ∃ k : Nat, k ≤ ls.length ∧ i = .int .i64 (k : Int) ∧ Hid (∀ j (hj : j < ls.length), j < k → nameP ls[j] = true) ∧ Below w.heap.size w wr) (fun i _ => ls.length - (intOf i).toNat)
  case atStart => exact ⟨0, Nat.zero_le _, rfl, fun j _ h => absurd h (by omega), Below.refl _ _⟩
  case round =>
    obtain ⟨k, hk, rfl, hall, hb⟩ := hrel
    by_cases hlt : k < ls.length
    · obtain ⟨g, off, rfl, hg, hc⟩ := (HS.out.on hb).at_ (k := k) (by rw [toBs_len]; exact hlt)
      have e1 : (toBs ls)[k]'(by rw [toBs_len]; exact hlt) = toB ls[k] := by simp [toBs]
      rw [e1] at hc
      have hz : (toB ls[k]).size ≤ 1000000 := by
        have := HL.out ls[k] (List.getElem_mem _)
        simpa [toB, ByteArray.size] using this
      have C := Lib.hid (wrong_any (toB ls[k]) wr hz)
      cases hd : rightB (toB ls[k]) with
      | false =>
        have hfin : Hid (ls.all nameP = false) := all_no hlt hd
        rw [hd] at C
        have HB := Lib.hid hb
        clear hall hd e1 hz hb
        generalize toB ls[k] = z at *
        go_wp2_with fail
        refine C.out.mono ?_
        rintro e w1 ⟨rfl, hb1⟩
        have HB2 := Lib.hid (HB.out.trans (hb1.mono HB.out.size))
        clear hb1
        go_wp2
        go_ret
        exact ⟨k, rfl, by rw [hfin.out]; simp, HB2.out⟩
      | true =>
        have hyes : Hid (∀ j (hj : j < ls.length), j < k + 1 → nameP ls[j] = true) := by
          intro j hj hjk
          by_cases hjk2 : j = k
          · subst hjk2; exact hd
          · exact hall.out j hj (by omega)
        rw [hd] at C
        have HB := Lib.hid hb
        clear hall hd e1 hz hb
        generalize toB ls[k] = z at *
        go_wp2_with fail
        refine C.out.mono ?_
        rintro e w1 ⟨rfl, hb1⟩
        have HB2 := Lib.hid (HB.out.trans (hb1.mono HB.out.size))
        clear hb1
        go_wp2
        go_roundw
        case rel => exact ⟨k + 1, by omega, by go_num, hyes, HB2.out⟩
        case measure => simp [intOf]; omega
    · obtain rfl : k = ls.length := by omega
      have hfin : Hid (ls.all nameP = true) := all_yes fun j hj => hall.out j hj hj
      clear hall
      go_wp2
      go_ret
      exact ⟨-1, rfl, by rw [hfin.out]; rfl, hb⟩
theorem containsfunc_any (A : Option Addr) (ls : List (List UInt8)) (cap : Nat) (w : World) (hs : Strs w w.heap.size A (toBs ls)) (hn : ls.length ≤ 1000000) (hl : ∀ x ∈ ls, x.length ≤ 1000000) :
    Calls Tryz.prog 123 #[.slice A ls.length cap, .func (.func 121) #[] #[]] w fun e w' => e = .returned (.bool (!(ls.all nameP))) ∧ Below w.heap.size w w' := by
  have C := Lib.hid (indexfunc_any A ls cap w hs hn hl)
  clear hs hl
  go_enter Tryz.func123, Tryz.ntmps123
  go_wp2_with fail
  refine C.out.mono ?_
  rintro e w1 ⟨r, rfl, hr, hb⟩
  have HR := Lib.hid hr
  clear hr C
  go_wp2
  go_ret
  rw [← HR.out]
  exact ⟨rfl, hb⟩

/-- Whether a row may be a path's names. -/
def areB (ls : List (List UInt8)) : Bool := decide (ls.length ≤ 16) && ls.all nameP
set_option maxHeartbeats 1000000 in
set_option maxRecDepth 100000 in
theorem arenames_any (A : Option Addr) (ls : List (List UInt8)) (cap : Nat) (w : World) (hs : Strs w w.heap.size A (toBs ls)) (hn : ls.length ≤ 1000000) (hl : ∀ x ∈ ls, x.length ≤ 1000000) :
    Calls Tryz.prog 99 #[.slice A ls.length cap] w fun e w' => e = .returned (.bool (areB ls)) ∧ Below w.heap.size w w' := by
  have C := Lib.hid (containsfunc_any A ls cap w hs hn hl)
  unfold areB
  clear hs hl
  by_cases h16 : 16 < ls.length
  · rw [decide_eq_false (show ¬ ls.length ≤ 16 by omega)]
    go_enter Tryz.func99, Tryz.ntmps99
    go_wp2
    go_ret
    exact ⟨rfl, Below.refl _ _⟩
  · rw [decide_eq_true (show ls.length ≤ 16 by omega)]
    generalize ls.all nameP = b at *
    go_enter Tryz.func99, Tryz.ntmps99
    go_wp2_with fail
    refine C.out.mono ?_
    rintro e w1 ⟨rfl, hb⟩
    have HB := Lib.hid hb
    clear hb C
    cases b <;> go_wp2 <;> go_ret <;> exact ⟨rfl, HB.out⟩

theorem pieces_le : ∀ (p : List UInt8), (pieces p).length ≤ p.length + 1 ∧ ∀ x ∈ pieces p, x.length ≤ p.length
  | [] => by simp [pieces]
  | c :: l => by
    obtain ⟨h1, h2⟩ := pieces_le l
    unfold pieces
    split
    · refine ⟨by simp; omega, fun x hx => ?_⟩
      rcases List.mem_cons.1 hx with rfl | hx
      · simp
      · have := h2 x hx; simp; omega
    · split
      · rename_i e; exact absurd e (pieces_ne l)
      · rename_i h t e
        rw [e] at h1 h2
        refine ⟨by simp at h1 ⊢; omega, fun x hx => ?_⟩
        rcases List.mem_cons.1 hx with rfl | hx
        · have := h2 h (by simp); simp; omega
        · have := h2 x (by simp [hx]); simp; omega

set_option maxHeartbeats 1000000 in
set_option maxRecDepth 100000 in
theorem split_any (s : ByteArray) (w : World) (hs : s.size ≤ 1000000) : Calls Tryz.prog 71 #[.string s] w (RowLeft w (pnames s)) := by
  have hsz : s.data.toList.length = s.size := by simp
  unfold pnames
  by_cases h2 : 200 < s.size
  · have hr : Hid (names nameP s.data.toList = []) := names_long (by omega)
    clear hsz
    go_enter Tryz.func71, Tryz.ntmps71
    go_wp2
    go_ret
    rw [hr.out]
    exact ⟨none, 0, rfl, fun _ => rfl, Strs.none_, Below.refl _ _⟩
  · obtain ⟨p, hp⟩ : ∃ p, s.data.toList = p := ⟨_, rfl⟩
    have C := Lib.hid (strsplit_any s w (by omega))
    rw [hp] at C hsz ⊢
    obtain ⟨hpl, hpx⟩ := pieces_le p
    have hal : Below w.heap.size w (w.alloc (.cells ((toBs (pieces p)).map Value.string).toArray 9)) := (Below.refl _ _).alloc (Nat.le_refl _) _
    have HST := Lib.hid ((strs_new w (toBs (pieces p))).more (B' := (w.alloc (.cells ((toBs (pieces p)).map Value.string).toArray 9)).heap.size) (by simp))
    have H200 : Hid (p.length ≤ 200) := by show _ ≤ _; omega
    have HX : Hid (∀ x ∈ pieces p, x.length ≤ 1000000) := fun x hx => by have := hpx x hx; omega
    have HL : Hid ((pieces p).length ≤ 1000000) := by show _ ≤ _; omega
    have HA := Lib.hid hal
    obtain ⟨q, hq⟩ : ∃ q, pieces p = q := ⟨_, rfl⟩
    have HQ := Lib.hid hq
    rw [hq] at C HST HX HL HA
    have hql := HL.out
    clear hal hpx hpl hp hsz hq
    have CF := Lib.hid (arenames_any (some ⟨w.heap.size, 0, none⟩) q q.length _ HST.out HL.out HX.out)
    cases hall : areB q with
    | false =>
      have hr : Hid (names nameP p = []) := by
        show _ = _
        unfold names
        rw [if_neg]
        rintro ⟨_, h, h'⟩
        rw [HQ.out] at h h'
        unfold areB at hall
        rw [h, decide_eq_true h'] at hall
        cases hall
      rw [hall] at CF
      clear hall
      go_enter Tryz.func71, Tryz.ntmps71
      go_wp2_with fail
      refine C.out.mono ?_
      rintro e w1 ⟨rfl, rfl⟩
      go_wp2_with fail
      refine CF.out.mono ?_
      rintro e w2 ⟨rfl, hb⟩
      have HB := Lib.hid (HA.out.trans (hb.mono HA.out.size))
      clear hb
      go_wp2
      go_ret
      rw [hr.out]
      exact ⟨none, 0, rfl, fun _ => rfl, Strs.none_, HB.out⟩
    | true =>
      have hr : Hid (names nameP p = q) := by
        show _ = _
        unfold names
        unfold areB at hall
        simp only [Bool.and_eq_true, decide_eq_true_eq] at hall
        rw [if_pos, HQ.out]
        rw [HQ.out]
        exact ⟨H200.out, hall.2, hall.1⟩
      rw [hall] at CF
      clear hall
      go_enter Tryz.func71, Tryz.ntmps71
      go_wp2_with fail
      refine C.out.mono ?_
      rintro e w1 ⟨rfl, rfl⟩
      go_wp2_with fail
      refine CF.out.mono ?_
      rintro e w2 ⟨rfl, hb⟩
      have HB := Lib.hid (HA.out.trans (hb.mono HA.out.size))
      have HS2 := Lib.hid (HST.out.on hb)
      clear hb
      go_wp2
      go_ret
      rw [hr.out]
      exact ⟨some ⟨w.heap.size, 0, none⟩, q.length, rfl, fun h => (by cases h), HS2.out, HB.out⟩

theorem pright_any (s : ByteArray) (w : World) (hs : s.size ≤ 1000000) : Calls Tryz.prog 40 #[.string s] w fun e w' => e = .returned (.bool (decide (pnames s ≠ []))) ∧ Below w.heap.size w w' := by
  have C := Lib.hid (split_any s w hs)
  have hne : decide (pnames s ≠ []) = decide (0 < (pnames s).length) := by
    rw [decide_eq_decide]
    exact List.length_pos_iff.symm
  rw [hne]
  generalize (pnames s) = l at *
  clear hne hs
  go_enter Tryz.func40, Tryz.ntmps40
  go_wp2_with fail
  refine C.out.mono ?_
  rintro e w1 ⟨A, cap, rfl, hA, hs, hb⟩
  have HB := Lib.hid hb
  clear hb hs hA C
  go_wp2
  go_ret
  exact ⟨rfl, HB.out⟩
theorem right_c : RightC := fun s w hs => pright_any s w (by omega)
end Go.Proofs.YtempamboacbgiaaGreatDoor
namespace Go.Proofs.YtempamboacbgiaaGreatDoor
open Go.RowKit
set_option linter.unusedVariables false

/-- A step's cells in block G, plainly. -/
structure PAt (w : World) (G : Nat) (kind : Int) (p q : ByteArray) (at_ : Int) (a1 : Option Addr) (n1 c1 : Nat) (a2 : Option Addr) (n2 c2 : Nat) : Prop where
  h : w.heap[G]? = some (.cells #[.int .i64 kind, .string p, .string q, .int .i64 at_, .slice a1 n1 c1, .slice a2 n2 c2] 38 (0, 0))
section
variable {w w' : World} {G : Nat} {kind : Int} {p q : ByteArray} {at_ : Int} {a1 : Option Addr} {n1 c1 : Nat} {a2 : Option Addr} {n2 c2 : Nat}
theorem PAt.k0 (k : PAt w G kind p q at_ a1 n1 c1 a2 n2 c2) : w.cell? ⟨G, 0, none⟩ = some (.int .i64 kind) := by simp [World.cell?, k.h]
theorem PAt.k1 (k : PAt w G kind p q at_ a1 n1 c1 a2 n2 c2) : w.cell? ⟨G, 1, none⟩ = some (.string p) := by simp [World.cell?, k.h]
theorem PAt.k2 (k : PAt w G kind p q at_ a1 n1 c1 a2 n2 c2) : w.cell? ⟨G, 2, none⟩ = some (.string q) := by simp [World.cell?, k.h]
theorem PAt.k3 (k : PAt w G kind p q at_ a1 n1 c1 a2 n2 c2) : w.cell? ⟨G, 3, none⟩ = some (.int .i64 at_) := by simp [World.cell?, k.h]
theorem PAt.k4 (k : PAt w G kind p q at_ a1 n1 c1 a2 n2 c2) : w.cell? ⟨G, 4, none⟩ = some (.slice a1 n1 c1) := by simp [World.cell?, k.h]
theorem PAt.k5 (k : PAt w G kind p q at_ a1 n1 c1 a2 n2 c2) : w.cell? ⟨G, 5, none⟩ = some (.slice a2 n2 c2) := by simp [World.cell?, k.h]
theorem PAt.lt (k : PAt w G kind p q at_ a1 n1 c1 a2 n2 c2) : G < w.heap.size := (Array.getElem?_eq_some_iff.1 k.h).1
theorem PAt.on (k : PAt w G kind p q at_ a1 n1 c1 a2 n2 c2) (hb : Below w.heap.size w w') : PAt w' G kind p q at_ a1 n1 c1 a2 n2 c2 := ⟨(hb.block G k.lt).trans k.h⟩
end
theorem PAt.new_ (w : World) (kind : Int) (p q : ByteArray) (at_ : Int) (a1 : Option Addr) (n1 c1 : Nat) (a2 : Option Addr) (n2 c2 : Nat) : PAt (w.alloc (.cells #[.int .i64 kind, .string p, .string q, .int .i64 at_, .slice a1 n1 c1, .slice a2 n2 c2] 38)) w.heap.size kind p q at_ a1 n1 c1 a2 n2 c2 := ⟨heap_alloc_new w _⟩
theorem q_empty {q : ByteArray} (h : q = ⟨#[]⟩) : (q.toList == []) = true := by rw [h, toList_eq]; rfl
end Go.Proofs.YtempamboacbgiaaGreatDoor
