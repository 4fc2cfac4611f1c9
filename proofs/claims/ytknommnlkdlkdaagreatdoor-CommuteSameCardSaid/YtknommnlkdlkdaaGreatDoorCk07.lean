/- A part of a row of strings: what slicing gives, in one way. The reference's Begins and Less of layer 5. What package path's calls are to do, as words: each is to be proved of the landed code. Package path's Split and Right: strings.Split at a slash, and slices.ContainsFunc of what is no name. Package path's cut, Dir, Base: the last slash. Package path's within, Within, Move. -/
import Derived.Test.YtknommnlkdlkdaaGreatDoorCk02
import Derived.Test.YtknommnlkdlkdaaGreatDoorShelf
import Derived.Test.YtknommnlkdlkdaaGreatDoorCk06
namespace Go.Proofs.YtknommnlkdlkdaaGreatDoor
open Go.RowKit
set_option linter.unusedVariables false

/-- A part of a row of strings: its address, its room. -/
structure Part (A : Option Addr) (A' : Option Addr) (cap' : Nat) (ls ld : List (List UInt8)) (i : Nat) : Prop where
  len : i + ld.length ≤ ls.length
  eq : ld = (ls.drop i).take ld.length
  strs : ∀ (w : World) (B : Nat), Strs w B A (toBs ls) → Strs w B A' (toBs ld)
  room : Room A' ld.length cap'
theorem size_str : (Tryz.prog.info? 9).map (·.size) = some 1 := by kernel_rfl
theorem run_slice_strs (A : Option Addr) (n cap i j : Nat) (low high : Option Value) (w : World) (hij : i ≤ j) (hj : j ≤ n) (hn : n ≤ cap) (hlow : low = some (.int .i64 (i : Int)) ∨ (low = none ∧ i = 0)) (hhigh : high = some (.int .i64 (j : Int)) ∨ (high = none ∧ j = n)) :
    (Instr.slice 23 (.slice A n cap) low high none).run Tryz.prog w = .ok (.slice (if cap = i then A else A.map (·.add i)) (j - i) (cap - i)) w := by
  have hb : ∀ w, (Instr.sliceBounds true n cap low high none).run Tryz.prog w = .ok (i, j, cap) w := by
    intro w
    have hi2 : (i : Int) ≤ (j : Int) := by omega
    have hj2 : (j : Int) ≤ (cap : Int) := by omega
    have hi3 : (i : Int) ≤ (n : Int) := by omega
    rcases hlow with rfl | ⟨rfl, rfl⟩ <;> rcases hhigh with rfl | ⟨rfl, rfl⟩ <;> simp [Instr.sliceBounds, Instr.sliceBound, asIntOf, go_sem, hij, show j ≤ cap by omega] <;> intros <;> omega
  obtain ⟨d, hd, hs⟩ : ∃ d, Tryz.prog.info? 9 = some d ∧ d.size = 1 := by
    have := size_str
    cases h : Tryz.prog.info? 9 with
    | none => rw [h] at this; cases this
    | some d => rw [h] at this; exact ⟨d, rfl, by simpa using this⟩
  unfold Instr.slice
  rw [Sem.run_bind, run_underlying Tryz.underlying23, Result.andThen_ok]
  simp only []
  rw [Sem.run_bind, hb, Result.andThen_ok]
  simp [sizeOf, typeInfo, hd, hs, Sem.run_bind]
theorem part_of (A : Option Addr) (ls : List (List UInt8)) (cap i j : Nat) (hr : Room A ls.length cap) (hij : i ≤ j) (hj : j ≤ ls.length) :
    ∃ A' cap' ld, ld = (ls.drop i).take (j - i) ∧ Part A A' cap' ls ld i ∧ ∀ (low high : Option Value) (w : World), (low = some (.int .i64 (i : Int)) ∨ (low = none ∧ i = 0)) → (high = some (.int .i64 (j : Int)) ∨ (high = none ∧ j = ls.length)) →
      (Instr.slice 23 (.slice A ls.length cap) low high none).run Tryz.prog w = .ok (.slice A' ld.length cap') w := by
  have hl : ((ls.drop i).take (j - i)).length = j - i := by rw [List.length_take, List.length_drop]; omega
  refine ⟨if cap = i then A else A.map (·.add i), cap - i, (ls.drop i).take (j - i), rfl, ⟨by rw [hl]; omega, by rw [hl], fun w B hs => ?_, ?_⟩, fun low high w h1 h2 => ?_⟩
  · by_cases hc : cap = i
    · have hz : (ls.drop i).take (j - i) = [] := by
        rw [← List.length_eq_zero_iff, hl]
        have := hr.2
        omega
      rw [hz]
      exact Strs.none_
    · rw [if_neg hc]
      refine hs.part i (j - i) _ fun b off hA hlt => ?_
      rw [hA, Option.map_some, add_row]
  · rw [hl]
    refine ⟨fun hA => ?_, by have := hr.2; omega⟩
    by_cases hc : cap = i
    · omega
    · rw [if_neg hc] at hA
      have : A = none := by cases A <;> simp_all
      have := hr.1 this
      omega
  · rw [hl]
    exact run_slice_strs A ls.length cap i j low high w hij hj hr.2 h1 h2
/-- What is behind i lines. -/
theorem part_from (A : Option Addr) (ls : List (List UInt8)) (cap i : Nat) (hr : Room A ls.length cap) (hi : i ≤ ls.length) :
    ∃ A' cap' ld, ld = ls.drop i ∧ Part A A' cap' ls ld i ∧ ∀ (w : World), (Instr.slice 23 (.slice A ls.length cap) (some (.int .i64 (i : Int))) none none).run Tryz.prog w = .ok (.slice A' ld.length cap') w := by
  obtain ⟨A', cap', ld, h1, h2, h3⟩ := part_of A ls cap i ls.length hr hi (Nat.le_refl _)
  refine ⟨A', cap', ld, ?_, h2, fun w => h3 _ _ w (.inl rfl) (.inr ⟨rfl, rfl⟩)⟩
  rw [h1, List.take_of_length_le (by rw [List.length_drop]; omega)]
/-- Lines i to j. -/
theorem part_mid (A : Option Addr) (ls : List (List UInt8)) (cap i j : Nat) (hr : Room A ls.length cap) (hij : i ≤ j) (hj : j ≤ ls.length) :
    ∃ A' cap' ld, ld = (ls.drop i).take (j - i) ∧ Part A A' cap' ls ld i ∧ ∀ (w : World), (Instr.slice 23 (.slice A ls.length cap) (some (.int .i64 (i : Int))) (some (.int .i64 (j : Int))) none).run Tryz.prog w = .ok (.slice A' ld.length cap') w := by
  obtain ⟨A', cap', ld, h1, h2, h3⟩ := part_of A ls cap i j hr hij hj
  exact ⟨A', cap', ld, h1, h2, fun w => h3 _ _ w (.inl rfl) (.inl rfl)⟩
theorem part_all (A : Option Addr) (ls : List (List UInt8)) (cap : Nat) (hr : Room A ls.length cap) :
    ∃ A' cap', Part A A' cap' ls ls 0 ∧ ∀ (w : World), (Instr.slice 23 (.slice A ls.length cap) none (some (.int .i64 (ls.length : Int))) none).run Tryz.prog w = .ok (.slice A' ls.length cap') w := by
  obtain ⟨A', cap', ld, h1, h2, h3⟩ := part_of A ls cap 0 ls.length hr (Nat.zero_le _) (Nat.le_refl _)
  have e : ld = ls := by rw [h1, List.drop_zero, Nat.sub_zero, List.take_length]
  subst e
  exact ⟨A', cap', h2, fun w => h3 _ _ w (.inr ⟨rfl, rfl⟩) (.inl rfl)⟩
end Go.Proofs.YtknommnlkdlkdaaGreatDoor
namespace Go.Proofs.YtknommnlkdlkdaaGreatDoor
open Go.RowKit
set_option linter.unusedVariables false

theorem rsame_l (A A2 : Option Addr) (la lc : List (List UInt8)) (cap cap2 : Nat) (w : World) (d : Bool) (hd : decide (la = lc) = d) (hs : Strs w w.heap.size A (toBs la)) (ht : Strs w w.heap.size A2 (toBs lc)) (hn : la.length ≤ 1000000) (hn2 : lc.length ≤ 1000000) :
    Calls Tryz.prog 25 #[.slice A la.length cap, .slice A2 lc.length cap2] w fun e w' => e = .returned (.bool d) ∧ ∃ m, w' = w.drewN m := by
  have h := same_q A A2 (toBs la) (toBs lc) cap cap2 w hs ht (by rw [toBs_len]; omega) (by rw [toBs_len]; omega)
  rw [toBs_len, toBs_len, show decide (toBs la = toBs lc) = d from by
    rw [← hd]
    congr 1
    refine propext ⟨fun h => ?_, fun h => by rw [h]⟩
    have := congrArg lists h
    rwa [lists_toBs, lists_toBs] at this] at h
  exact h
theorem rsame_d (A A2 : Option Addr) (la lc : List (List UInt8)) (cap cap2 : Nat) (w : World) (d : Bool) (hd : decide (la = lc) = d) (hs : Strs w w.heap.size A (toBs la)) (ht : Strs w w.heap.size A2 (toBs lc)) (hn : la.length ≤ 1000000) (hn2 : lc.length ≤ 1000000) (n : Nat) :
    Calls Tryz.prog 25 #[.slice A la.length cap, .slice A2 lc.length cap2] (w.drewN n) fun e w' => e = .returned (.bool d) ∧ ∃ m, w' = w.drewN m :=
  Calls.quiet_of (rsame_l A A2 la lc cap cap2 (w.drewN n) d hd hs ht hn hn2)
theorem bless_eq (l m : List UInt8) : Op.bytesLess (toB l).toList (toB m).toList = decide (l < m) := by
  rw [bytesLess_eq, toList_eq, toList_eq, of_toB, of_toB]
theorem bless_eqs (s t : ByteArray) : Op.bytesLess s.toList t.toList = decide (s.data.toList < t.data.toList) := by
  rw [bytesLess_eq, toList_eq, toList_eq]

end Go.Proofs.YtknommnlkdlkdaaGreatDoor
namespace Go.Proofs.YtknommnlkdlkdaaGreatDoor
open Go.RowKit
set_option linter.unusedVariables false

def pnames (s : ByteArray) : List (List UInt8) := names nameP s.data.toList
def RightC : Prop := ∀ (s : ByteArray) (w : World), s.size ≤ 100000 → Calls Tryz.prog 33 #[.string s] w fun e w' => e = .returned (.bool (decide (pnames s ≠ []))) ∧ Below w.heap.size w w'
def SplitC : Prop := ∀ (s : ByteArray) (w : World), s.size ≤ 100000 → Calls Tryz.prog 62 #[.string s] w (RowLeft w (pnames s))
def DirC : Prop := ∀ (s : ByteArray) (w : World), s.size ≤ 100000 → Calls Tryz.prog 64 #[.string s] w fun e w' => e = .returned (.string (toB (dirP nameP s.data.toList))) ∧ Below w.heap.size w w'
def WithinC : Prop := ∀ (s t : ByteArray) (w : World), s.size ≤ 100000 → t.size ≤ 100000 → Calls Tryz.prog 79 #[.string s, .string t] w fun e w' => e = .returned (.bool (withinP nameP s.data.toList t.data.toList)) ∧ Below w.heap.size w w'
def LessC : Prop := ∀ (s t : ByteArray) (w : World), s.size ≤ 100000 → t.size ≤ 100000 → Calls Tryz.prog 32 #[.string s, .string t] w fun e w' => e = .returned (.bool (lessP nameP s.data.toList t.data.toList)) ∧ Below w.heap.size w w'
end Go.Proofs.YtknommnlkdlkdaaGreatDoor
namespace Go.Proofs.YtknommnlkdlkdaaGreatDoor
open Go.RowKit
set_option linter.unusedVariables false

theorem strsplit_any (s : ByteArray) (w : World) (hs : s.size ≤ 1000000) : Calls Tryz.prog 91 #[.string s, .string ⟨#[47]⟩] w fun e w' => e = .returned (.slice (some ⟨w.heap.size, 0, none⟩) (pieces s.data.toList).length (pieces s.data.toList).length) ∧ w' = w.alloc (.cells ((toBs (pieces s.data.toList)).map Value.string).toArray 9) := split_slash Tryz.lays146 (by kernel_rfl) s w (by omega)

theorem wrong_any (s : ByteArray) (w : World) (hs : s.size ≤ 1000000) :
    Calls Tryz.prog 111 #[.string s] w fun e w' => e = .returned (.bool (!rightB s)) ∧ Below w.heap.size w w' := by
  have C := Lib.hid (right_any s w (by omega))
  generalize rightB s = b at *
  go_enter Tryz.func111, Tryz.ntmps111
  go_wp2_with fail
  refine C.out.mono ?_
  rintro e w1 ⟨rfl, hb⟩
  go_wp2
  go_ret
  exact ⟨rfl, hb⟩

theorem all_no {ls : List (List UInt8)} {k : Nat} (hk : k < ls.length) (h : nameP ls[k] = false) : ls.all nameP = false := by
  rw [List.all_eq_false]
  exact ⟨ls[k], List.getElem_mem _, by rw [h]; exact Bool.false_ne_true⟩
theorem all_yes {ls : List (List UInt8)} (h : ∀ k (hk : k < ls.length), nameP ls[k] = true) : ls.all nameP = true := by
  rw [List.all_eq_true]
  intro x hx
  obtain ⟨k, hk, rfl⟩ := List.getElem_of_mem hx
  exact h k hk

set_option maxHeartbeats 1000000 in
set_option maxRecDepth 100000 in
theorem indexfunc_any (A : Option Addr) (ls : List (List UInt8)) (cap : Nat) (w : World) (hs : Strs w w.heap.size A (toBs ls)) (hn : ls.length ≤ 1000000) (hl : ∀ x ∈ ls, x.length ≤ 1000000) :
    Calls Tryz.prog 107 #[.slice A ls.length cap, .func (.func 111) #[] #[]] w fun e w' => ∃ r : Int, e = .returned (.int .i64 r) ∧ decide (0 ≤ r) = !(ls.all nameP) ∧ Below w.heap.size w w' := by
  have HS := Lib.hid hs
  have HL := Lib.hid hl
  clear hs hl
  go_enter Tryz.func107, Tryz.ntmps107
  go_wp2
  go_loopw [8] (fun i wr => ∃ k : Nat, k ≤ ls.length ∧ i = .int .i64 (k : Int) ∧ Hid (∀ j (hj : j < ls.length), j < k → nameP ls[j] = true) ∧ Below w.heap.size w wr) (fun i _ => ls.length - (intOf i).toNat)
  case atStart => exact ⟨0, Nat.zero_le _, rfl, fun j _ h => absurd h (by omega), Below.refl _ _⟩
  case round =>
    obtain ⟨k, hk, rfl, hall, hb⟩ := hrel
    by_cases hlt : k < ls.length
    · obtain ⟨g, off, rfl, hg, hc⟩ := (HS.out.on hb).at_ (k := k) (by rw [toBs_len]; exact hlt)
      have e1 : (toBs ls)[k]'(by rw [toBs_len]; exact hlt) = toB ls[k] := by simp [toBs]
      rw [e1] at hc
      have hz : (toB ls[k]).size ≤ 1000000 := by
        have := HL.out ls[k] (List.getElem_mem _)
        simpa [toB, ByteArray.size] using this
      have C := Lib.hid (wrong_any (toB ls[k]) wr hz)
      cases hd : rightB (toB ls[k]) with
      | false =>
        have hfin : Hid (ls.all nameP = false) := all_no hlt hd
        rw [hd] at C
        have HB := Lib.hid hb
        clear hall hd e1 hz hb
        generalize toB ls[k] = z at *
        go_wp2_with fail
        refine C.out.mono ?_
        rintro e w1 ⟨rfl, hb1⟩
        have HB2 := Lib.hid (HB.out.trans (hb1.mono HB.out.size))
        clear hb1
        go_wp2
        go_ret
        exact ⟨k, rfl, by rw [hfin.out]; simp, HB2.out⟩
      | true =>
        have hyes : Hid (∀ j (hj : j < ls.length), j < k + 1 → nameP ls[j] = true) := by
          intro j hj hjk
          by_cases hjk2 : j = k
          · subst hjk2; exact hd
          · exact hall.out j hj (by omega)
        rw [hd] at C
        have HB := Lib.hid hb
        clear hall hd e1 hz hb
        generalize toB ls[k] = z at *
        go_wp2_with fail
        refine C.out.mono ?_
        rintro e w1 ⟨rfl, hb1⟩
        have HB2 := Lib.hid (HB.out.trans (hb1.mono HB.out.size))
        clear hb1
        go_wp2
        go_roundw
        case rel => exact ⟨k + 1, by omega, by go_num, hyes, HB2.out⟩
        case measure => simp [intOf]; omega
    · obtain rfl : k = ls.length := by omega
      have hfin : Hid (ls.all nameP = true) := all_yes fun j hj => hall.out j hj hj
      clear hall
      go_wp2
      go_ret
      exact ⟨-1, rfl, by rw [hfin.out]; rfl, hb⟩
theorem containsfunc_any (A : Option Addr) (ls : List (List UInt8)) (cap : Nat) (w : World) (hs : Strs w w.heap.size A (toBs ls)) (hn : ls.length ≤ 1000000) (hl : ∀ x ∈ ls, x.length ≤ 1000000) :
    Calls Tryz.prog 81 #[.slice A ls.length cap, .func (.func 111) #[] #[]] w fun e w' => e = .returned (.bool (!(ls.all nameP))) ∧ Below w.heap.size w w' := by
  have C := Lib.hid (indexfunc_any A ls cap w hs hn hl)
  clear hs hl
  go_enter Tryz.func81, Tryz.ntmps81
  go_wp2_with fail
  refine C.out.mono ?_
  rintro e w1 ⟨r, rfl, hr, hb⟩
  have HR := Lib.hid hr
  clear hr C
  go_wp2
  go_ret
  rw [← HR.out]
  exact ⟨rfl, hb⟩

/-- Whether a row may be a path's names. -/
def areB (ls : List (List UInt8)) : Bool := decide (ls.length ≤ 16) && ls.all nameP
set_option maxHeartbeats 1000000 in
set_option maxRecDepth 100000 in
theorem arenames_any (A : Option Addr) (ls : List (List UInt8)) (cap : Nat) (w : World) (hs : Strs w w.heap.size A (toBs ls)) (hn : ls.length ≤ 1000000) (hl : ∀ x ∈ ls, x.length ≤ 1000000) :
    Calls Tryz.prog 92 #[.slice A ls.length cap] w fun e w' => e = .returned (.bool (areB ls)) ∧ Below w.heap.size w w' := by
  have C := Lib.hid (containsfunc_any A ls cap w hs hn hl)
  unfold areB
  clear hs hl
  by_cases h16 : 16 < ls.length
  · rw [decide_eq_false (show ¬ ls.length ≤ 16 by omega)]
    go_enter Tryz.func92, Tryz.ntmps92
    go_wp2
    go_ret
    exact ⟨rfl, Below.refl _ _⟩
  · rw [decide_eq_true (show ls.length ≤ 16 by omega)]
    generalize ls.all nameP = b at *
    go_enter Tryz.func92, Tryz.ntmps92
    go_wp2_with fail
    refine C.out.mono ?_
    rintro e w1 ⟨rfl, hb⟩
    have HB := Lib.hid hb
    clear hb C
    cases b <;> go_wp2 <;> go_ret <;> exact ⟨rfl, HB.out⟩

theorem pieces_le : ∀ (p : List UInt8), (pieces p).length ≤ p.length + 1 ∧ ∀ x ∈ pieces p, x.length ≤ p.length
  | [] => by simp [pieces]
  | c :: l => by
    obtain ⟨h1, h2⟩ := pieces_le l
    unfold pieces
    split
    · refine ⟨by simp; omega, fun x hx => ?_⟩
      rcases List.mem_cons.1 hx with rfl | hx
      · simp
      · have := h2 x hx; simp; omega
    · split
      · rename_i e; exact absurd e (pieces_ne l)
      · rename_i h t e
        rw [e] at h1 h2
        refine ⟨by simp at h1 ⊢; omega, fun x hx => ?_⟩
        rcases List.mem_cons.1 hx with rfl | hx
        · have := h2 h (by simp); simp; omega
        · have := h2 x (by simp [hx]); simp; omega

set_option maxHeartbeats 1000000 in
set_option maxRecDepth 100000 in
theorem split_any (s : ByteArray) (w : World) (hs : s.size ≤ 1000000) : Calls Tryz.prog 62 #[.string s] w (RowLeft w (pnames s)) := by
  have hsz : s.data.toList.length = s.size := by simp
  unfold pnames
  by_cases h2 : 200 < s.size
  · have hr : Hid (names nameP s.data.toList = []) := names_long (by omega)
    clear hsz
    go_enter Tryz.func62, Tryz.ntmps62
    go_wp2
    go_ret
    rw [hr.out]
    exact ⟨none, 0, rfl, fun _ => rfl, Strs.none_, Below.refl _ _⟩
  · obtain ⟨p, hp⟩ : ∃ p, s.data.toList = p := ⟨_, rfl⟩
    have C := Lib.hid (strsplit_any s w (by omega))
    rw [hp] at C hsz ⊢
    obtain ⟨hpl, hpx⟩ := pieces_le p
    have hal : Below w.heap.size w (w.alloc (.cells ((toBs (pieces p)).map Value.string).toArray 9)) := (Below.refl _ _).alloc (Nat.le_refl _) _
    have HST := Lib.hid ((strs_new w (toBs (pieces p))).more (B' := (w.alloc (.cells ((toBs (pieces p)).map Value.string).toArray 9)).heap.size) (by simp))
    have H200 : Hid (p.length ≤ 200) := by show _ ≤ _; omega
    have HX : Hid (∀ x ∈ pieces p, x.length ≤ 1000000) := fun x hx => by have := hpx x hx; omega
    have HL : Hid ((pieces p).length ≤ 1000000) := by show _ ≤ _; omega
    have HA := Lib.hid hal
    obtain ⟨q, hq⟩ : ∃ q, pieces p = q := ⟨_, rfl⟩
    have HQ := Lib.hid hq
    rw [hq] at C HST HX HL HA
    have hql := HL.out
    clear hal hpx hpl hp hsz hq
    have CF := Lib.hid (arenames_any (some ⟨w.heap.size, 0, none⟩) q q.length _ HST.out HL.out HX.out)
    cases hall : areB q with
    | false =>
      have hr : Hid (names nameP p = []) := by
        show _ = _
        unfold names
        rw [if_neg]
        rintro ⟨_, h, h'⟩
        rw [HQ.out] at h h'
        unfold areB at hall
        rw [h, decide_eq_true h'] at hall
        cases hall
      rw [hall] at CF
      clear hall
      go_enter Tryz.func62, Tryz.ntmps62
      go_wp2_with fail
      refine C.out.mono ?_
      rintro e w1 ⟨rfl, rfl⟩
      go_wp2_with fail
      refine CF.out.mono ?_
      rintro e w2 ⟨rfl, hb⟩
      have HB := Lib.hid (HA.out.trans (hb.mono HA.out.size))
      clear hb
      go_wp2
      go_ret
      rw [hr.out]
      exact ⟨none, 0, rfl, fun _ => rfl, Strs.none_, HB.out⟩
    | true =>
      have hr : Hid (names nameP p = q) := by
        show _ = _
        unfold names
        unfold areB at hall
        simp only [Bool.and_eq_true, decide_eq_true_eq] at hall
        rw [if_pos, HQ.out]
        rw [HQ.out]
        exact ⟨H200.out, hall.2, hall.1⟩
      rw [hall] at CF
      clear hall
      go_enter Tryz.func62, Tryz.ntmps62
      go_wp2_with fail
      refine C.out.mono ?_
      rintro e w1 ⟨rfl, rfl⟩
      go_wp2_with fail
      refine CF.out.mono ?_
      rintro e w2 ⟨rfl, hb⟩
      have HB := Lib.hid (HA.out.trans (hb.mono HA.out.size))
      have HS2 := Lib.hid (HST.out.on hb)
      clear hb
      go_wp2
      go_ret
      rw [hr.out]
      exact ⟨some ⟨w.heap.size, 0, none⟩, q.length, rfl, fun h => (by cases h), HS2.out, HB.out⟩

theorem split_c : SplitC := fun s w hs => split_any s w (by omega)
theorem pright_any (s : ByteArray) (w : World) (hs : s.size ≤ 1000000) : Calls Tryz.prog 33 #[.string s] w fun e w' => e = .returned (.bool (decide (pnames s ≠ []))) ∧ Below w.heap.size w w' := by
  have C := Lib.hid (split_any s w hs)
  have hne : decide (pnames s ≠ []) = decide (0 < (pnames s).length) := by
    rw [decide_eq_decide]
    exact List.length_pos_iff.symm
  rw [hne]
  generalize (pnames s) = l at *
  clear hne hs
  go_enter Tryz.func33, Tryz.ntmps33
  go_wp2_with fail
  refine C.out.mono ?_
  rintro e w1 ⟨A, cap, rfl, hA, hs, hb⟩
  have HB := Lib.hid hb
  clear hb hs hA C
  go_wp2
  go_ret
  exact ⟨rfl, HB.out⟩
theorem right_c : RightC := fun s w hs => pright_any s w (by omega)
end Go.Proofs.YtknommnlkdlkdaaGreatDoor
namespace Go.Proofs.YtknommnlkdlkdaaGreatDoor
open Go.RowKit
set_option linter.unusedVariables false

theorem at_bang {s : ByteArray} {j : Nat} (h : j < s.size) : s.data[j]! = s[j] := by
  have : j < s.data.size := h
  rw [getElem!_pos s.data j this]
  rfl
/-- Where the last slash is. -/
theorem last_cut /- 114 -/ (s : ByteArray) : (∃ x r, s.data.toList = x ++ 47 :: r ∧ (47 : UInt8) ∉ r ∧ Lib.lastIndexByte s 47 = (x.length : Int)) ∨ ((47 : UInt8) ∉ s.data.toList ∧ Lib.lastIndexByte s 47 = -1) := by
  have key : ∀ j (hj : j < s.size), ((s.data[j]!).toNat : Int) ≠ 47 → s.data.toList[j]? ≠ some 47 := by
    intro j hj h e
    rw [byte_get hj, Option.some.injEq] at e
    apply h
    rw [at_bang hj, e]
    rfl
  have hsz : s.data.toList.length = s.size := by simp
  rcases Lib.lastIndexByte_spec s 47 with ⟨e, hn⟩ | ⟨i, hi, e, hc, hn⟩
  · refine .inr ⟨fun hm => ?_, e⟩
    obtain ⟨j, hj, hv⟩ := List.getElem_of_mem hm
    rw [hsz] at hj
    exact key j hj (hn j hj) (by rw [List.getElem?_eq_getElem (by omega), hv])
  · refine .inl ⟨s.data.toList.take i, s.data.toList.drop (i + 1), ?_, fun hm => ?_, ?_⟩
    · have hv : s.data.toList[i]'(by omega) = 47 := by
        have : ((s[i].toNat : Nat) : Int) = 47 := by rw [← at_bang hi]; exact hc
        have h2 := byte_get hi
        rw [List.getElem?_eq_getElem (by omega), Option.some.injEq] at h2
        rw [h2]
        exact UInt8.toNat_inj.1 (by simpa using (by omega : s[i].toNat = 47))
      have h1 := (List.take_append_drop i s.data.toList).symm
      rwa [List.drop_eq_getElem_cons (by omega), hv] at h1
    · obtain ⟨j, hj, hv⟩ := List.getElem_of_mem hm
      rw [List.length_drop, hsz] at hj
      rw [List.getElem_drop] at hv
      refine key (i + 1 + j) (by omega) (hn _ (by omega) (by omega)) ?_
      rw [List.getElem?_eq_getElem (by omega), hv]
    · rw [e, List.length_take, hsz, Nat.min_eq_left (by omega)]
theorem lastindex_any (s : ByteArray) (i : Int) (hi : Lib.lastIndexByte s 47 = i) (w : World) (hs : s.size ≤ 1000000) : Calls Tryz.prog 114 #[.string s, .string ⟨#[47]⟩] w fun e w' => e = .returned (.int .i64 i) ∧ w' = w := by
  have h := Tryz.strings_LastIndex_one s ⟨#[47]⟩ rfl (by omega) w
  have e : (((⟨#[47]⟩ : ByteArray)[0]'(by decide)).toNat : Int) = 47 := by decide
  rw [e, hi] at h
  exact h

set_option maxHeartbeats 1000000 in
set_option maxRecDepth 100000 in
theorem cut_any (s : ByteArray) (w : World) (hs : s.size ≤ 1000000) :
    Calls Tryz.prog 94 #[.string s] w fun e w' => e = .returned (.tuple #[.string (toB (dirP nameP s.data.toList)), .string (toB (baseP nameP s.data.toList))]) ∧ Below w.heap.size w w' := by
  have C := Lib.hid (pright_any s w hs)
  unfold pnames at C
  by_cases hn : names nameP s.data.toList = []
  · obtain ⟨h1, h2⟩ := dir_no (nm := nameP) hn
    rw [h1, h2]
    rw [decide_eq_false (by simp [hn])] at C
    clear h1 h2 hn
    go_enter Tryz.func94, Tryz.ntmps94
    go_wp2_with fail
    refine C.out.mono ?_
    rintro e w1 ⟨rfl, hb⟩
    have HB := Lib.hid hb
    clear hb
    go_wp2
    go_ret2
    exact ⟨rfl, HB.out⟩
  · rw [decide_eq_true hn] at C
    rcases last_cut s with ⟨x, r, hx, hr, hi⟩ | ⟨hm, hi⟩
    · have e := dir_cut (nm := nameP) (x := x) (r := r) (by rw [← hx]; exact hn) hr
      rw [← hx] at e
      rw [e.1, e.2]
      have hl : s.size = x.length + 1 + r.length := by
        have := congrArg List.length hx
        simp at this
        omega
      have d1 : Hid (s.extract 0 x.length = toB x) := by show _ = _; rw [ext_toB, hx]; simp
      have d2 : Hid (s.extract (x.length + 1) s.size = toB r) := by
        show _ = _
        rw [ext_toB, hx, show x ++ 47 :: r = (x ++ [47]) ++ r by simp, List.drop_left' (by simp), List.take_of_length_le (by omega)]
      have CL := fun w => lastindex_any s x.length hi w hs
      have CL := Lib.hid CL
      have hi6 : x.length ≤ 1000000 := by omega
      have q1 : (x.length : Int) ≤ (s.size : Int) := by omega
      have q2 : (x.length : Int) + 1 ≤ (s.size : Int) := by omega
      clear e hx hr hi hn hl
      generalize toB x = y at *
      generalize toB r = z at *
      generalize x.length = i at *
      have hm : max (i : Int) 0 = (i : Int) := by omega
      have hw : IntKind.i64.wrap ((i : Int) + 1) = (i : Int) + 1 := IntWalk.i64_in _ (by omega)
      go_enter Tryz.func94, Tryz.ntmps94
      go_wp2_with fail
      refine C.out.mono ?_
      rintro e w1 ⟨rfl, hb⟩
      have HB := Lib.hid hb
      clear hb
      go_wp2_with fail
      refine (CL.out _).mono ?_
      rintro e w2 ⟨rfl, rfl⟩
      go_wp2
      go_quiet (fail)
      go_wp2
      go_ret2
      rw [d1.out, d2.out]
      exact ⟨rfl, below_drewN HB.out _⟩
    · have e := dir_one (nm := nameP) hn hm
      rw [e.1, e.2, toB_of]
      have CL := fun w => lastindex_any s (-1) hi w hs
      have CL := Lib.hid CL
      clear e hm hi hn
      have hw : IntKind.i64.wrap ((-1 : Int) + 1) = 0 := by decide
      have d1 : Hid (s.extract 0 (max (-1 : Int) 0).toNat = toB []) := by show _ = _; rw [ext_toB]; rfl
      go_enter Tryz.func94, Tryz.ntmps94
      go_wp2_with fail
      refine C.out.mono ?_
      rintro e w1 ⟨rfl, hb⟩
      have HB := Lib.hid hb
      clear hb
      go_wp2_with fail
      refine (CL.out _).mono ?_
      rintro e w2 ⟨rfl, rfl⟩
      go_wp2
      go_quiet (fail)
      go_wp2
      go_ret2
      rw [d1.out]
      exact ⟨rfl, below_drewN HB.out _⟩
theorem dir_c : DirC := by
  intro s w hs
  have C := Lib.hid (cut_any s w (by omega))
  generalize toB (dirP nameP s.data.toList) = x at *
  generalize toB (baseP nameP s.data.toList) = y at *
  go_enter Tryz.func64, Tryz.ntmps64
  go_wp2_with fail
  refine C.out.mono ?_
  rintro e w1 ⟨rfl, hb⟩
  have HB := Lib.hid hb
  clear hb
  go_wp2
  go_ret
  exact ⟨rfl, HB.out⟩
end Go.Proofs.YtknommnlkdlkdaaGreatDoor
namespace Go.Proofs.YtknommnlkdlkdaaGreatDoor
open Go.RowKit
set_option linter.unusedVariables false

theorem nameP_empty : nameP [] = false := by decide +kernel
theorem nameP_slash {x : List UInt8} (h : nameP x = true) : (47 : UInt8) ∉ x := by
  intro hm
  unfold nameP rightB at h
  rw [Bool.and_eq_true] at h
  have h2 := h.2
  unfold allIn at h2
  rw [List.all_eq_true] at h2
  have := h2 47 (by rw [of_toB]; exact hm)
  revert this
  decide +kernel

theorem hasprefix_any (s d : ByteArray) (b : Bool) (hb : ((d.data.toList ++ [47]).isPrefixOf s.data.toList) = b) (w : World) : Calls Tryz.prog 121 #[.string s, .string (d ++ ⟨#[47]⟩)] w fun e w' => e = .returned (.bool b) ∧ w' = w := by
  have h := Tryz.strings_HasPrefix s (d ++ ⟨#[47]⟩) w
  unfold Lib.hasPrefix at h
  rw [show (d ++ (⟨#[47]⟩ : ByteArray)).data.toList = d.data.toList ++ [47] by simp [ByteArray.data_append], hb] at h
  exact h
set_option maxHeartbeats 1000000 in
set_option maxRecDepth 100000 in
theorem within1_any (B : Nat) (d s : ByteArray) (w : World) (hB : B < w.heap.size) (hc : w.cell? ⟨B, 0, none⟩ = some (.string (d ++ ⟨#[47]⟩))) (hs : s.size ≤ 1000000) :
    Calls Tryz.prog 120 #[.string s, .pointer (some ⟨B, 0, none⟩)] w fun e w' => e = .returned (.bool ((d.data.toList ++ [47]).isPrefixOf s.data.toList && decide (pnames s ≠ []))) ∧ Below w.heap.size w w' := by
  have CR := Lib.hid (pright_any s w hs)
  generalize decide (pnames s ≠ []) = r at *
  obtain ⟨b, hb⟩ : ∃ b, ((d.data.toList ++ [47]).isPrefixOf s.data.toList) = b := ⟨_, rfl⟩
  have CP := Lib.hid (hasprefix_any s d b hb w)
  rw [hb]
  clear hb
  generalize d ++ ⟨#[47]⟩ = dd at *
  cases b with
  | false =>
    go_enter Tryz.func120, Tryz.ntmps120
    go_wp2_with fail
    refine CP.out.mono ?_
    rintro e w1 ⟨rfl, rfl⟩
    go_wp2
    go_ret
    exact ⟨rfl, Below.refl _ _⟩
  | true =>
    go_enter Tryz.func120, Tryz.ntmps120
    go_wp2_with fail
    refine CP.out.mono ?_
    rintro e w1 ⟨rfl, rfl⟩
    go_wp2_with fail
    refine CR.out.mono ?_
    rintro e w2 ⟨rfl, hb⟩
    have HB := Lib.hid hb
    clear hb
    go_wp2
    go_ret
    exact ⟨rfl, HB.out⟩
theorem within_none (w : World) :
    Calls Tryz.prog 106 #[.string ⟨#[]⟩] w fun e w' => e = .returned (.func (.func 33) #[] #[]) ∧ w' = w := by
  go_enter Tryz.func106, Tryz.ntmps106
  go_wp2
  go_ret
  exact ⟨rfl, rfl⟩
theorem within_some (d : ByteArray) (hd : d ≠ ⟨#[]⟩) (hs : d.size ≤ 1000000) (w : World) :
    Calls Tryz.prog 106 #[.string d] w fun e w' => e = .returned (.func (.func 120) #[] #[.pointer (some ⟨w.heap.size, 0, none⟩)]) ∧ w' = w.alloc (.cells #[.string (d ++ ⟨#[47]⟩)] 9) := by
  have hne : (d.toList == []) = false := by
    rw [beq_eq_false_iff_ne]
    intro h
    apply hd
    rw [toList_eq] at h
    exact bytes_inj h
  have hne2 : ¬ (d.toList = []) := by simpa using hne
  go_enter Tryz.func106, Tryz.ntmps106
  go_wp2
  go_ret
  exact ⟨rfl, rfl⟩
set_option maxHeartbeats 1000000 in
set_option maxRecDepth 100000 in
theorem pwithin_any (s t : ByteArray) (w : World) (hs : s.size ≤ 1000000) (ht : t.size ≤ 1000000) :
    Calls Tryz.prog 79 #[.string s, .string t] w fun e w' => e = .returned (.bool (withinP nameP s.data.toList t.data.toList)) ∧ Below w.heap.size w w' := by
  by_cases h0 : t = ⟨#[]⟩
  · subst h0
    rw [show withinP nameP s.data.toList (⟨#[]⟩ : ByteArray).data.toList = decide (pnames s ≠ []) from within_root nameP_empty _]
    have CR := Lib.hid (pright_any s w hs)
    generalize decide (pnames s ≠ []) = r at *
    have CW := Lib.hid (within_none w)
    go_enter Tryz.func79, Tryz.ntmps79
    go_wp2_with fail
    refine CW.out.mono ?_
    rintro e w1 ⟨rfl, rfl⟩
    go_wp2_with fail
    refine CR.out.mono ?_
    rintro e w2 ⟨rfl, hb⟩
    have HB := Lib.hid hb
    clear hb
    go_wp2
    go_ret
    exact ⟨rfl, HB.out⟩
  · have hd : t.data.toList ≠ [] := fun e => h0 (bytes_inj e)
    rw [within_dir hd]
    have hal : Below w.heap.size w (w.alloc (.cells #[.string (t ++ ⟨#[47]⟩)] 9)) := (Below.refl _ _).alloc (Nat.le_refl _) _
    have C1 := Lib.hid (within1_any w.heap.size t s (w.alloc (.cells #[.string (t ++ ⟨#[47]⟩)] 9)) (by simp) (by rw [World.cell?_alloc_new]; rfl) hs)
    have CW := Lib.hid (within_some t h0 ht w)
    have HA := Lib.hid hal
    unfold pnames at C1
    generalize ((t.data.toList ++ [47]).isPrefixOf s.data.toList && decide (names nameP s.data.toList ≠ [])) = r at *
    clear hal hd h0
    generalize (t ++ ⟨#[47]⟩) = tt at *
    go_enter Tryz.func79, Tryz.ntmps79
    go_wp2_with fail
    refine CW.out.mono ?_
    rintro e w1 ⟨rfl, rfl⟩
    go_wp2_with fail
    refine C1.out.mono ?_
    rintro e w2 ⟨rfl, hb⟩
    have HB := Lib.hid (HA.out.trans (hb.mono HA.out.size))
    clear hb
    go_wp2
    go_ret
    exact ⟨rfl, HB.out⟩
theorem within_c : WithinC := fun s t w hs ht => pwithin_any s t w (by omega) (by omega) /- 79 -/
end Go.Proofs.YtknommnlkdlkdaaGreatDoor
