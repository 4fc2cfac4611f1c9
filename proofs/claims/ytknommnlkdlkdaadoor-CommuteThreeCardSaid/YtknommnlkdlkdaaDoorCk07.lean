/- A part of a row of strings: what slicing gives, in one way. The reference's Begins and Less of layer 5. What package path's calls are to do, as words: each is to be proved of the landed code. Package path's Split and Right: strings.Split at a slash, and slices.ContainsFunc of what is no name. Package path's cut, Dir, Base: the last slash. Package path's within, Within, Move. -/
import Derived.Test.YtknommnlkdlkdaaDoorCk02
import Derived.Test.YtknommnlkdlkdaaDoorShelf
import Derived.Test.YtknommnlkdlkdaaDoorCk06
namespace Go.Proofs.YtknommnlkdlkdaaDoor
open Go.RowKit
set_option linter.unusedVariables false

/-- A part of a row of strings: its address, its room. -/
structure Part (A : Option Addr) (A' : Option Addr) (cap' : Nat) (ls ld : List (List UInt8)) (i : Nat) : Prop where
  len : i + ld.length ≤ ls.length
  eq : ld = (ls.drop i).take ld.length
  strs : ∀ (w : World) (B : Nat), Strs w B A (toBs ls) → Strs w B A' (toBs ld)
  room : Room A' ld.length cap'
theorem size_str : (Tryd.prog.info? 9).map (·.size) = some 1 := by kernel_rfl
theorem run_slice_strs (A : Option Addr) (n cap i j : Nat) (low high : Option Value) (w : World) (hij : i ≤ j) (hj : j ≤ n) (hn : n ≤ cap) (hlow : low = some (.int .i64 (i : Int)) ∨ (low = none ∧ i = 0)) (hhigh : high = some (.int .i64 (j : Int)) ∨ (high = none ∧ j = n)) :
    (Instr.slice 22 (.slice A n cap) low high none).run Tryd.prog w = .ok (.slice (if cap = i then A else A.map (·.add i)) (j - i) (cap - i)) w := by
  have hb : ∀ w, (Instr.sliceBounds true n cap low high none).run Tryd.prog w = .ok (i, j, cap) w := by
    intro w
    have hi2 : (i : Int) ≤ (j : Int) := by omega
    have hj2 : (j : Int) ≤ (cap : Int) := by omega
    have hi3 : (i : Int) ≤ (n : Int) := by omega
    rcases hlow with rfl | ⟨rfl, rfl⟩ <;> rcases hhigh with rfl | ⟨rfl, rfl⟩ <;> simp [Instr.sliceBounds, Instr.sliceBound, asIntOf, go_sem, hij, show j ≤ cap by omega] <;> intros <;> omega
  obtain ⟨d, hd, hs⟩ : ∃ d, Tryd.prog.info? 9 = some d ∧ d.size = 1 := by
    have := size_str
    cases h : Tryd.prog.info? 9 with
    | none => rw [h] at this; cases this
    | some d => rw [h] at this; exact ⟨d, rfl, by simpa using this⟩
  unfold Instr.slice
  rw [Sem.run_bind, run_underlying Tryd.underlying22, Result.andThen_ok]
  simp only []
  rw [Sem.run_bind, hb, Result.andThen_ok]
  simp [sizeOf, typeInfo, hd, hs, Sem.run_bind]
theorem part_of (A : Option Addr) (ls : List (List UInt8)) (cap i j : Nat) (hr : Room A ls.length cap) (hij : i ≤ j) (hj : j ≤ ls.length) :
    ∃ A' cap' ld, ld = (ls.drop i).take (j - i) ∧ Part A A' cap' ls ld i ∧ ∀ (low high : Option Value) (w : World), (low = some (.int .i64 (i : Int)) ∨ (low = none ∧ i = 0)) → (high = some (.int .i64 (j : Int)) ∨ (high = none ∧ j = ls.length)) →
      (Instr.slice 22 (.slice A ls.length cap) low high none).run Tryd.prog w = .ok (.slice A' ld.length cap') w := by
  have hl : ((ls.drop i).take (j - i)).length = j - i := by rw [List.length_take, List.length_drop]; omega
  refine ⟨if cap = i then A else A.map (·.add i), cap - i, (ls.drop i).take (j - i), rfl, ⟨by rw [hl]; omega, by rw [hl], fun w B hs => ?_, ?_⟩, fun low high w h1 h2 => ?_⟩
  · by_cases hc : cap = i
    · have hz : (ls.drop i).take (j - i) = [] := by
        rw [← List.length_eq_zero_iff, hl]
        have := hr.2
        omega
      rw [hz]
      exact Strs.none_
    · rw [if_neg hc]
      refine hs.part i (j - i) _ fun b off hA hlt => ?_
      rw [hA, Option.map_some, add_row]
  · rw [hl]
    refine ⟨fun hA => ?_, by have := hr.2; omega⟩
    by_cases hc : cap = i
    · omega
    · rw [if_neg hc] at hA
      have : A = none := by cases A <;> simp_all
      have := hr.1 this
      omega
  · rw [hl]
    exact run_slice_strs A ls.length cap i j low high w hij hj hr.2 h1 h2
/-- What is behind i lines. -/
theorem part_from (A : Option Addr) (ls : List (List UInt8)) (cap i : Nat) (hr : Room A ls.length cap) (hi : i ≤ ls.length) :
    ∃ A' cap' ld, ld = ls.drop i ∧ Part A A' cap' ls ld i ∧ ∀ (w : World), (Instr.slice 22 (.slice A ls.length cap) (some (.int .i64 (i : Int))) none none).run Tryd.prog w = .ok (.slice A' ld.length cap') w := by
  obtain ⟨A', cap', ld, h1, h2, h3⟩ := part_of A ls cap i ls.length hr hi (Nat.le_refl _)
  refine ⟨A', cap', ld, ?_, h2, fun w => h3 _ _ w (.inl rfl) (.inr ⟨rfl, rfl⟩)⟩
  rw [h1, List.take_of_length_le (by rw [List.length_drop]; omega)]
/-- Lines i to j. -/
theorem part_mid (A : Option Addr) (ls : List (List UInt8)) (cap i j : Nat) (hr : Room A ls.length cap) (hij : i ≤ j) (hj : j ≤ ls.length) :
    ∃ A' cap' ld, ld = (ls.drop i).take (j - i) ∧ Part A A' cap' ls ld i ∧ ∀ (w : World), (Instr.slice 22 (.slice A ls.length cap) (some (.int .i64 (i : Int))) (some (.int .i64 (j : Int))) none).run Tryd.prog w = .ok (.slice A' ld.length cap') w := by
  obtain ⟨A', cap', ld, h1, h2, h3⟩ := part_of A ls cap i j hr hij hj
  exact ⟨A', cap', ld, h1, h2, fun w => h3 _ _ w (.inl rfl) (.inl rfl)⟩
theorem part_all (A : Option Addr) (ls : List (List UInt8)) (cap : Nat) (hr : Room A ls.length cap) :
    ∃ A' cap', Part A A' cap' ls ls 0 ∧ ∀ (w : World), (Instr.slice 22 (.slice A ls.length cap) none (some (.int .i64 (ls.length : Int))) none).run Tryd.prog w = .ok (.slice A' ls.length cap') w := by
  obtain ⟨A', cap', ld, h1, h2, h3⟩ := part_of A ls cap 0 ls.length hr (Nat.zero_le _) (Nat.le_refl _)
  have e : ld = ls := by rw [h1, List.drop_zero, Nat.sub_zero, List.take_length]
  subst e
  exact ⟨A', cap', h2, fun w => h3 _ _ w (.inr ⟨rfl, rfl⟩) (.inl rfl)⟩
end Go.Proofs.YtknommnlkdlkdaaDoor
namespace Go.Proofs.YtknommnlkdlkdaaDoor
open Go.RowKit
set_option linter.unusedVariables false

theorem rsame_l (A A2 : Option Addr) (la lc : List (List UInt8)) (cap cap2 : Nat) (w : World) (d : Bool) (hd : decide (la = lc) = d) (hs : Strs w w.heap.size A (toBs la)) (ht : Strs w w.heap.size A2 (toBs lc)) (hn : la.length ≤ 1000000) (hn2 : lc.length ≤ 1000000) :
    Calls Tryd.prog 14 #[.slice A la.length cap, .slice A2 lc.length cap2] w fun e w' => e = .returned (.bool d) ∧ ∃ m, w' = w.drewN m := by
  have h := same_q A A2 (toBs la) (toBs lc) cap cap2 w hs ht (by rw [toBs_len]; omega) (by rw [toBs_len]; omega)
  rw [toBs_len, toBs_len, show decide (toBs la = toBs lc) = d from by
    rw [← hd]
    congr 1
    refine propext ⟨fun h => ?_, fun h => by rw [h]⟩
    have := congrArg lists h
    rwa [lists_toBs, lists_toBs] at this] at h
  exact h
theorem rsame_d (A A2 : Option Addr) (la lc : List (List UInt8)) (cap cap2 : Nat) (w : World) (d : Bool) (hd : decide (la = lc) = d) (hs : Strs w w.heap.size A (toBs la)) (ht : Strs w w.heap.size A2 (toBs lc)) (hn : la.length ≤ 1000000) (hn2 : lc.length ≤ 1000000) (n : Nat) :
    Calls Tryd.prog 14 #[.slice A la.length cap, .slice A2 lc.length cap2] (w.drewN n) fun e w' => e = .returned (.bool d) ∧ ∃ m, w' = w.drewN m :=
  Calls.quiet_of (rsame_l A A2 la lc cap cap2 (w.drewN n) d hd hs ht hn hn2)
theorem bless_eq (l m : List UInt8) : Op.bytesLess (toB l).toList (toB m).toList = decide (l < m) := by
  rw [bytesLess_eq, toList_eq, toList_eq, of_toB, of_toB]
theorem bless_eqs (s t : ByteArray) : Op.bytesLess s.toList t.toList = decide (s.data.toList < t.data.toList) := by
  rw [bytesLess_eq, toList_eq, toList_eq]

end Go.Proofs.YtknommnlkdlkdaaDoor
namespace Go.Proofs.YtknommnlkdlkdaaDoor
open Go.RowKit
set_option linter.unusedVariables false

def pnames (s : ByteArray) : List (List UInt8) := names nameP s.data.toList
def RightC : Prop := ∀ (s : ByteArray) (w : World), s.size ≤ 100000 → Calls Tryd.prog 35 #[.string s] w fun e w' => e = .returned (.bool (decide (pnames s ≠ []))) ∧ Below w.heap.size w w'
def SplitC : Prop := ∀ (s : ByteArray) (w : World), s.size ≤ 100000 → Calls Tryd.prog 42 #[.string s] w (RowLeft w (pnames s))
def WithinC : Prop := ∀ (s t : ByteArray) (w : World), s.size ≤ 100000 → t.size ≤ 100000 → Calls Tryd.prog 31 #[.string s, .string t] w fun e w' => e = .returned (.bool (withinP nameP s.data.toList t.data.toList)) ∧ Below w.heap.size w w'
end Go.Proofs.YtknommnlkdlkdaaDoor
namespace Go.Proofs.YtknommnlkdlkdaaDoor
open Go.RowKit
set_option linter.unusedVariables false

theorem strsplit_any (s : ByteArray) (w : World) (hs : s.size ≤ 1000000) : Calls Tryd.prog 46 #[.string s, .string ⟨#[47]⟩] w fun e w' => e = .returned (.slice (some ⟨w.heap.size, 0, none⟩) (pieces s.data.toList).length (pieces s.data.toList).length) ∧ w' = w.alloc (.cells ((toBs (pieces s.data.toList)).map Value.string).toArray 9) := split_slash Tryd.lays146 (by kernel_rfl) s w (by omega)

theorem wrong_any (s : ByteArray) (w : World) (hs : s.size ≤ 1000000) :
    Calls Tryd.prog 51 #[.string s] w fun e w' => e = .returned (.bool (!rightB s)) ∧ Below w.heap.size w w' := by
  have C := Lib.hid (right_any s w (by omega))
  generalize rightB s = b at *
  go_enter Tryd.func51, Tryd.ntmps51
  go_wp2_with fail
  refine C.out.mono ?_
  rintro e w1 ⟨rfl, hb⟩
  go_wp2
  go_ret
  exact ⟨rfl, hb⟩

theorem all_no {ls : List (List UInt8)} {k : Nat} (hk : k < ls.length) (h : nameP ls[k] = false) : ls.all nameP = false := by
  rw [List.all_eq_false]
  exact ⟨ls[k], List.getElem_mem _, by rw [h]; exact Bool.false_ne_true⟩
theorem all_yes {ls : List (List UInt8)} (h : ∀ k (hk : k < ls.length), nameP ls[k] = true) : ls.all nameP = true := by
  rw [List.all_eq_true]
  intro x hx
  obtain ⟨k, hk, rfl⟩ := List.getElem_of_mem hx
  exact h k hk

set_option maxHeartbeats 1000000 in
set_option maxRecDepth 100000 in
theorem indexfunc_any (A : Option Addr) (ls : List (List UInt8)) (cap : Nat) (w : World) (hs : Strs w w.heap.size A (toBs ls)) (hn : ls.length ≤ 1000000) (hl : ∀ x ∈ ls, x.length ≤ 1000000) :
    Calls Tryd.prog 41 #[.slice A ls.length cap, .func (.func 51) #[] #[]] w fun e w' => ∃ r : Int, e = .returned (.int .i64 r) ∧ decide (0 ≤ r) = !(ls.all nameP) ∧ Below w.heap.size w w' := by
  have HS := Lib.hid hs
  have HL := Lib.hid hl
  clear hs hl
  go_enter Tryd.func41, Tryd.ntmps41
  go_wp2
  go_loopw [8] (fun i wr => ∃ k : Nat, k ≤ ls.length ∧ i = .int .i64 (k : Int) ∧ Hid (∀ j (hj : j < ls.length), j < k → nameP ls[j] = true) ∧ Below w.heap.size w wr) (fun i _ => ls.length - (intOf i).toNat)
  case atStart => exact ⟨0, Nat.zero_le _, rfl, fun j _ h => absurd h (by omega), Below.refl _ _⟩
  case round =>
    obtain ⟨k, hk, rfl, hall, hb⟩ := hrel
    by_cases hlt : k < ls.length
    · obtain ⟨g, off, rfl, hg, hc⟩ := (HS.out.on hb).at_ (k := k) (by rw [toBs_len]; exact hlt)
      have e1 : (toBs ls)[k]'(by rw [toBs_len]; exact hlt) = toB ls[k] := by simp [toBs]
      rw [e1] at hc
      have hz : (toB ls[k]).size ≤ 1000000 := by
        have := HL.out ls[k] (List.getElem_mem _)
        simpa [toB, ByteArray.size] using this
      have C := Lib.hid (wrong_any (toB ls[k]) wr hz)
      cases hd : rightB (toB ls[k]) with
      | false =>
        have hfin : Hid (ls.all nameP = false) := all_no hlt hd
        rw [hd] at C
        have HB := Lib.hid hb
        clear hall hd e1 hz hb
        generalize toB ls[k] = z at *
        go_wp2_with fail
        refine C.out.mono ?_
        rintro e w1 ⟨rfl, hb1⟩
        have HB2 := Lib.hid (HB.out.trans (hb1.mono HB.out.size))
        clear hb1
        go_wp2
        go_ret
        exact ⟨k, rfl, by rw [hfin.out]; simp, HB2.out⟩
      | true =>
        have hyes : Hid (∀ j (hj : j < ls.length), j < k + 1 → nameP ls[j] = true) := by
          intro j hj hjk
          by_cases hjk2 : j = k
          · subst hjk2; exact hd
          · exact hall.out j hj (by omega)
        rw [hd] at C
        have HB := Lib.hid hb
        clear hall hd e1 hz hb
        generalize toB ls[k] = z at *
        go_wp2_with fail
        refine C.out.mono ?_
        rintro e w1 ⟨rfl, hb1⟩
        have HB2 := Lib.hid (HB.out.trans (hb1.mono HB.out.size))
        clear hb1
        go_wp2
        go_roundw
        case rel => exact ⟨k + 1, by omega, by go_num, hyes, HB2.out⟩
        case measure => simp [intOf]; omega
    · obtain rfl : k = ls.length := by omega
      have hfin : Hid (ls.all nameP = true) := all_yes fun j hj => hall.out j hj hj
      clear hall
      go_wp2
      go_ret
      exact ⟨-1, rfl, by rw [hfin.out]; rfl, hb⟩
theorem containsfunc_any (A : Option Addr) (ls : List (List UInt8)) (cap : Nat) (w : World) (hs : Strs w w.heap.size A (toBs ls)) (hn : ls.length ≤ 1000000) (hl : ∀ x ∈ ls, x.length ≤ 1000000) :
    Calls Tryd.prog 33 #[.slice A ls.length cap, .func (.func 51) #[] #[]] w fun e w' => e = .returned (.bool (!(ls.all nameP))) ∧ Below w.heap.size w w' := by
  have C := Lib.hid (indexfunc_any A ls cap w hs hn hl)
  clear hs hl
  go_enter Tryd.func33, Tryd.ntmps33
  go_wp2_with fail
  refine C.out.mono ?_
  rintro e w1 ⟨r, rfl, hr, hb⟩
  have HR := Lib.hid hr
  clear hr C
  go_wp2
  go_ret
  rw [← HR.out]
  exact ⟨rfl, hb⟩

/-- Whether a row may be a path's names. -/
def areB (ls : List (List UInt8)) : Bool := decide (ls.length ≤ 16) && ls.all nameP
set_option maxHeartbeats 1000000 in
set_option maxRecDepth 100000 in
theorem arenames_any (A : Option Addr) (ls : List (List UInt8)) (cap : Nat) (w : World) (hs : Strs w w.heap.size A (toBs ls)) (hn : ls.length ≤ 1000000) (hl : ∀ x ∈ ls, x.length ≤ 1000000) :
    Calls Tryd.prog 47 #[.slice A ls.length cap] w fun e w' => e = .returned (.bool (areB ls)) ∧ Below w.heap.size w w' := by
  have C := Lib.hid (containsfunc_any A ls cap w hs hn hl)
  unfold areB
  clear hs hl
  by_cases h16 : 16 < ls.length
  · rw [decide_eq_false (show ¬ ls.length ≤ 16 by omega)]
    go_enter Tryd.func47, Tryd.ntmps47
    go_wp2
    go_ret
    exact ⟨rfl, Below.refl _ _⟩
  · rw [decide_eq_true (show ls.length ≤ 16 by omega)]
    generalize ls.all nameP = b at *
    go_enter Tryd.func47, Tryd.ntmps47
    go_wp2_with fail
    refine C.out.mono ?_
    rintro e w1 ⟨rfl, hb⟩
    have HB := Lib.hid hb
    clear hb C
    cases b <;> go_wp2 <;> go_ret <;> exact ⟨rfl, HB.out⟩

theorem pieces_le : ∀ (p : List UInt8), (pieces p).length ≤ p.length + 1 ∧ ∀ x ∈ pieces p, x.length ≤ p.length
  | [] => by simp [pieces]
  | c :: l => by
    obtain ⟨h1, h2⟩ := pieces_le l
    unfold pieces
    split
    · refine ⟨by simp; omega, fun x hx => ?_⟩
      rcases List.mem_cons.1 hx with rfl | hx
      · simp
      · have := h2 x hx; simp; omega
    · split
      · rename_i e; exact absurd e (pieces_ne l)
      · rename_i h t e
        rw [e] at h1 h2
        refine ⟨by simp at h1 ⊢; omega, fun x hx => ?_⟩
        rcases List.mem_cons.1 hx with rfl | hx
        · have := h2 h (by simp); simp; omega
        · have := h2 x (by simp [hx]); simp; omega

set_option maxHeartbeats 1000000 in
set_option maxRecDepth 100000 in
theorem split_any (s : ByteArray) (w : World) (hs : s.size ≤ 1000000) : Calls Tryd.prog 42 #[.string s] w (RowLeft w (pnames s)) := by
  have hsz : s.data.toList.length = s.size := by simp
  unfold pnames
  by_cases h2 : 200 < s.size
  · have hr : Hid (names nameP s.data.toList = []) := names_long (by omega)
    clear hsz
    go_enter Tryd.func42, Tryd.ntmps42
    go_wp2
    go_ret
    rw [hr.out]
    exact ⟨none, 0, rfl, fun _ => rfl, Strs.none_, Below.refl _ _⟩
  · obtain ⟨p, hp⟩ : ∃ p, s.data.toList = p := ⟨_, rfl⟩
    have C := Lib.hid (strsplit_any s w (by omega))
    rw [hp] at C hsz ⊢
    obtain ⟨hpl, hpx⟩ := pieces_le p
    have hal : Below w.heap.size w (w.alloc (.cells ((toBs (pieces p)).map Value.string).toArray 9)) := (Below.refl _ _).alloc (Nat.le_refl _) _
    have HST := Lib.hid ((strs_new w (toBs (pieces p))).more (B' := (w.alloc (.cells ((toBs (pieces p)).map Value.string).toArray 9)).heap.size) (by simp))
    have H200 : Hid (p.length ≤ 200) := by show _ ≤ _; omega
    have HX : Hid (∀ x ∈ pieces p, x.length ≤ 1000000) := fun x hx => by have := hpx x hx; omega
    have HL : Hid ((pieces p).length ≤ 1000000) := by show _ ≤ _; omega
    have HA := Lib.hid hal
    obtain ⟨q, hq⟩ : ∃ q, pieces p = q := ⟨_, rfl⟩
    have HQ := Lib.hid hq
    rw [hq] at C HST HX HL HA
    have hql := HL.out
    clear hal hpx hpl hp hsz hq
    have CF := Lib.hid (arenames_any (some ⟨w.heap.size, 0, none⟩) q q.length _ HST.out HL.out HX.out)
    cases hall : areB q with
    | false =>
      have hr : Hid (names nameP p = []) := by
        show _ = _
        unfold names
        rw [if_neg]
        rintro ⟨_, h, h'⟩
        rw [HQ.out] at h h'
        unfold areB at hall
        rw [h, decide_eq_true h'] at hall
        cases hall
      rw [hall] at CF
      clear hall
      go_enter Tryd.func42, Tryd.ntmps42
      go_wp2_with fail
      refine C.out.mono ?_
      rintro e w1 ⟨rfl, rfl⟩
      go_wp2_with fail
      refine CF.out.mono ?_
      rintro e w2 ⟨rfl, hb⟩
      have HB := Lib.hid (HA.out.trans (hb.mono HA.out.size))
      clear hb
      go_wp2
      go_ret
      rw [hr.out]
      exact ⟨none, 0, rfl, fun _ => rfl, Strs.none_, HB.out⟩
    | true =>
      have hr : Hid (names nameP p = q) := by
        show _ = _
        unfold names
        unfold areB at hall
        simp only [Bool.and_eq_true, decide_eq_true_eq] at hall
        rw [if_pos, HQ.out]
        rw [HQ.out]
        exact ⟨H200.out, hall.2, hall.1⟩
      rw [hall] at CF
      clear hall
      go_enter Tryd.func42, Tryd.ntmps42
      go_wp2_with fail
      refine C.out.mono ?_
      rintro e w1 ⟨rfl, rfl⟩
      go_wp2_with fail
      refine CF.out.mono ?_
      rintro e w2 ⟨rfl, hb⟩
      have HB := Lib.hid (HA.out.trans (hb.mono HA.out.size))
      have HS2 := Lib.hid (HST.out.on hb)
      clear hb
      go_wp2
      go_ret
      rw [hr.out]
      exact ⟨some ⟨w.heap.size, 0, none⟩, q.length, rfl, fun h => (by cases h), HS2.out, HB.out⟩

theorem split_c : SplitC := fun s w hs => split_any s w (by omega)
theorem pright_any (s : ByteArray) (w : World) (hs : s.size ≤ 1000000) : Calls Tryd.prog 35 #[.string s] w fun e w' => e = .returned (.bool (decide (pnames s ≠ []))) ∧ Below w.heap.size w w' := by
  have C := Lib.hid (split_any s w hs)
  have hne : decide (pnames s ≠ []) = decide (0 < (pnames s).length) := by
    rw [decide_eq_decide]
    exact List.length_pos_iff.symm
  rw [hne]
  generalize (pnames s) = l at *
  clear hne hs
  go_enter Tryd.func35, Tryd.ntmps35
  go_wp2_with fail
  refine C.out.mono ?_
  rintro e w1 ⟨A, cap, rfl, hA, hs, hb⟩
  have HB := Lib.hid hb
  clear hb hs hA C
  go_wp2
  go_ret
  exact ⟨rfl, HB.out⟩
theorem right_c : RightC := fun s w hs => pright_any s w (by omega)
end Go.Proofs.YtknommnlkdlkdaaDoor
namespace Go.Proofs.YtknommnlkdlkdaaDoor
open Go.RowKit
set_option linter.unusedVariables false

theorem at_bang {s : ByteArray} {j : Nat} (h : j < s.size) : s.data[j]! = s[j] := by
  have : j < s.data.size := h
  rw [getElem!_pos s.data j this]
  rfl
end Go.Proofs.YtknommnlkdlkdaaDoor
namespace Go.Proofs.YtknommnlkdlkdaaDoor
open Go.RowKit
set_option linter.unusedVariables false

theorem nameP_empty : nameP [] = false := by decide +kernel
theorem nameP_slash {x : List UInt8} (h : nameP x = true) : (47 : UInt8) ∉ x := by
  intro hm
  unfold nameP rightB at h
  rw [Bool.and_eq_true] at h
  have h2 := h.2
  unfold allIn at h2
  rw [List.all_eq_true] at h2
  have := h2 47 (by rw [of_toB]; exact hm)
  revert this
  decide +kernel

theorem hasprefix_any (s d : ByteArray) (b : Bool) (hb : ((d.data.toList ++ [47]).isPrefixOf s.data.toList) = b) (w : World) : Calls Tryd.prog 45 #[.string s, .string (d ++ ⟨#[47]⟩)] w fun e w' => e = .returned (.bool b) ∧ w' = w := by
  have h := Tryd.strings_HasPrefix s (d ++ ⟨#[47]⟩) w
  unfold Lib.hasPrefix at h
  rw [show (d ++ (⟨#[47]⟩ : ByteArray)).data.toList = d.data.toList ++ [47] by simp [ByteArray.data_append], hb] at h
  exact h
set_option maxHeartbeats 1000000 in
set_option maxRecDepth 100000 in
theorem within1_any (B : Nat) (d s : ByteArray) (w : World) (hB : B < w.heap.size) (hc : w.cell? ⟨B, 0, none⟩ = some (.string (d ++ ⟨#[47]⟩))) (hs : s.size ≤ 1000000) :
    Calls Tryd.prog 44 #[.string s, .pointer (some ⟨B, 0, none⟩)] w fun e w' => e = .returned (.bool ((d.data.toList ++ [47]).isPrefixOf s.data.toList && decide (pnames s ≠ []))) ∧ Below w.heap.size w w' := by
  have CR := Lib.hid (pright_any s w hs)
  generalize decide (pnames s ≠ []) = r at *
  obtain ⟨b, hb⟩ : ∃ b, ((d.data.toList ++ [47]).isPrefixOf s.data.toList) = b := ⟨_, rfl⟩
  have CP := Lib.hid (hasprefix_any s d b hb w)
  rw [hb]
  clear hb
  generalize d ++ ⟨#[47]⟩ = dd at *
  cases b with
  | false =>
    go_enter Tryd.func44, Tryd.ntmps44
    go_wp2_with fail
    refine CP.out.mono ?_
    rintro e w1 ⟨rfl, rfl⟩
    go_wp2
    go_ret
    exact ⟨rfl, Below.refl _ _⟩
  | true =>
    go_enter Tryd.func44, Tryd.ntmps44
    go_wp2_with fail
    refine CP.out.mono ?_
    rintro e w1 ⟨rfl, rfl⟩
    go_wp2_with fail
    refine CR.out.mono ?_
    rintro e w2 ⟨rfl, hb⟩
    have HB := Lib.hid hb
    clear hb
    go_wp2
    go_ret
    exact ⟨rfl, HB.out⟩
theorem within_none (w : World) :
    Calls Tryd.prog 40 #[.string ⟨#[]⟩] w fun e w' => e = .returned (.func (.func 35) #[] #[]) ∧ w' = w := by
  go_enter Tryd.func40, Tryd.ntmps40
  go_wp2
  go_ret
  exact ⟨rfl, rfl⟩
theorem within_some (d : ByteArray) (hd : d ≠ ⟨#[]⟩) (hs : d.size ≤ 1000000) (w : World) :
    Calls Tryd.prog 40 #[.string d] w fun e w' => e = .returned (.func (.func 44) #[] #[.pointer (some ⟨w.heap.size, 0, none⟩)]) ∧ w' = w.alloc (.cells #[.string (d ++ ⟨#[47]⟩)] 9) := by
  have hne : (d.toList == []) = false := by
    rw [beq_eq_false_iff_ne]
    intro h
    apply hd
    rw [toList_eq] at h
    exact bytes_inj h
  have hne2 : ¬ (d.toList = []) := by simpa using hne
  go_enter Tryd.func40, Tryd.ntmps40
  go_wp2
  go_ret
  exact ⟨rfl, rfl⟩
set_option maxHeartbeats 1000000 in
set_option maxRecDepth 100000 in
theorem pwithin_any (s t : ByteArray) (w : World) (hs : s.size ≤ 1000000) (ht : t.size ≤ 1000000) :
    Calls Tryd.prog 31 #[.string s, .string t] w fun e w' => e = .returned (.bool (withinP nameP s.data.toList t.data.toList)) ∧ Below w.heap.size w w' := by
  by_cases h0 : t = ⟨#[]⟩
  · subst h0
    rw [show withinP nameP s.data.toList (⟨#[]⟩ : ByteArray).data.toList = decide (pnames s ≠ []) from within_root nameP_empty _]
    have CR := Lib.hid (pright_any s w hs)
    generalize decide (pnames s ≠ []) = r at *
    have CW := Lib.hid (within_none w)
    go_enter Tryd.func31, Tryd.ntmps31
    go_wp2_with fail
    refine CW.out.mono ?_
    rintro e w1 ⟨rfl, rfl⟩
    go_wp2_with fail
    refine CR.out.mono ?_
    rintro e w2 ⟨rfl, hb⟩
    have HB := Lib.hid hb
    clear hb
    go_wp2
    go_ret
    exact ⟨rfl, HB.out⟩
  · have hd : t.data.toList ≠ [] := fun e => h0 (bytes_inj e)
    rw [within_dir hd]
    have hal : Below w.heap.size w (w.alloc (.cells #[.string (t ++ ⟨#[47]⟩)] 9)) := (Below.refl _ _).alloc (Nat.le_refl _) _
    have C1 := Lib.hid (within1_any w.heap.size t s (w.alloc (.cells #[.string (t ++ ⟨#[47]⟩)] 9)) (by simp) (by rw [World.cell?_alloc_new]; rfl) hs)
    have CW := Lib.hid (within_some t h0 ht w)
    have HA := Lib.hid hal
    unfold pnames at C1
    generalize ((t.data.toList ++ [47]).isPrefixOf s.data.toList && decide (names nameP s.data.toList ≠ [])) = r at *
    clear hal hd h0
    generalize (t ++ ⟨#[47]⟩) = tt at *
    go_enter Tryd.func31, Tryd.ntmps31
    go_wp2_with fail
    refine CW.out.mono ?_
    rintro e w1 ⟨rfl, rfl⟩
    go_wp2_with fail
    refine C1.out.mono ?_
    rintro e w2 ⟨rfl, hb⟩
    have HB := Lib.hid (HA.out.trans (hb.mono HA.out.size))
    clear hb
    go_wp2
    go_ret
    exact ⟨rfl, HB.out⟩
theorem within_c : WithinC := fun s t w hs ht => pwithin_any s t w (by omega) (by omega) /- 31 -/
end Go.Proofs.YtknommnlkdlkdaaDoor
