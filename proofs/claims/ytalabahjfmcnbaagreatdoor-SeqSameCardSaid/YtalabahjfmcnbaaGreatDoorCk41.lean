/- Paths, plainly: their names; names joined; one order of paths. A part of a row of strings: what slicing gives, in one way. The reference's Begins and Less of layer 5. Paths, plainly: where a path is cut, what lies within it, how it is moved, within which it lies; for any test of names that no slash passes. What package path's calls are to do, as words: each is to be proved of the landed code. The reference's Find, Dir, Up, Same of layer 6. Package path's Split and Right: strings.Split at a slash, and slices.ContainsFunc of what is no name. Package path's cut, Dir, Base: the last slash. Package path's within, Within, Move. Package path's Less: slices.Compare of names, strings.Compare, cmp.Or. Package path's Less, Ups, Join. The reference's Without of layer 6. The reference's Sort of layer 6. -/
import Derived.BigQuiet
import Derived.Deep.QuietTactic
import Derived.Handy
import Derived.Test.YtalabahjfmcnbaaGreatDoorShelf
import Derived.Laws.Cover1
import Derived.Sort.OwnSorted
import Derived.Deep.RegionHeld3
import Derived.Deep.DrawnRows
import Derived.Test.YtalabahjfmcnbaaGreatDoorCk03
import Derived.Test.YtalabahjfmcnbaaGreatDoorCk39
namespace Go.Proofs.YtalabahjfmcnbaaGreatDoor
set_option linter.unusedVariables false
set_option linter.unusedSectionVars false

theorem pieces_join : ∀ (l : List (List UInt8)), l ≠ [] → (∀ x ∈ l, (47 : UInt8) ∉ x) → pieces (joinB l) = l
  | [], h, _ => absurd rfl h
  | [x], _, h => pieces_one x (h x (by simp))
  | x :: y :: l, _, h => by
    rw [join_cons x (by simp), pieces_cut x _ (h x (by simp)), pieces_join (y :: l) (by simp) fun z hz => h z (List.mem_cons_of_mem _ hz)]
section
variable (nm : List UInt8 → Bool)
/-- Names joined are a path's, or none's. -/
theorem names_join {l : List (List UInt8)} (hl : l ≠ []) (hn : l.all nm = true) (hs : ∀ x, nm x = true → (47 : UInt8) ∉ x) : names nm (joinB l) = if (joinB l).length ≤ 200 ∧ l.length ≤ 16 then l else [] := by
  have e := pieces_join l hl fun x hx => hs x (List.all_eq_true.1 hn x hx)
  unfold names
  rw [e, hn]
  by_cases h : (joinB l).length ≤ 200 ∧ l.length ≤ 16
  · rw [if_pos ⟨h.1, rfl, h.2⟩, if_pos h]
  · rw [if_neg (fun k => h ⟨k.1, k.2.2⟩), if_neg h]
def baseP (p : List UInt8) : List UInt8 := (names nm p).getLast?.getD []
end
section
variable (nm : List UInt8 → Bool)
end
end Go.Proofs.YtalabahjfmcnbaaGreatDoor
namespace Go.Proofs.YtalabahjfmcnbaaGreatDoor
open Go.RowKit
set_option linter.unusedVariables false

/-- What is behind i lines. -/
theorem part_from (A : Option Addr) (ls : List (List UInt8)) (cap i : Nat) (hr : Room A ls.length cap) (hi : i ≤ ls.length) :
    ∃ A' cap' ld, ld = ls.drop i ∧ Part A A' cap' ls ld i ∧ ∀ (w : World), (Instr.slice 31 (.slice A ls.length cap) (some (.int .i64 (i : Int))) none none).run Tryz.prog w = .ok (.slice A' ld.length cap') w := by
  obtain ⟨A', cap', ld, h1, h2, h3⟩ := part_of A ls cap i ls.length hr hi (Nat.le_refl _)
  refine ⟨A', cap', ld, ?_, h2, fun w => h3 _ _ w (.inl rfl) (.inr ⟨rfl, rfl⟩)⟩
  rw [h1, List.take_of_length_le (by rw [List.length_drop]; omega)]
/-- Lines i to j. -/
theorem part_mid (A : Option Addr) (ls : List (List UInt8)) (cap i j : Nat) (hr : Room A ls.length cap) (hij : i ≤ j) (hj : j ≤ ls.length) :
    ∃ A' cap' ld, ld = (ls.drop i).take (j - i) ∧ Part A A' cap' ls ld i ∧ ∀ (w : World), (Instr.slice 31 (.slice A ls.length cap) (some (.int .i64 (i : Int))) (some (.int .i64 (j : Int))) none).run Tryz.prog w = .ok (.slice A' ld.length cap') w := by
  obtain ⟨A', cap', ld, h1, h2, h3⟩ := part_of A ls cap i j hr hij hj
  exact ⟨A', cap', ld, h1, h2, fun w => h3 _ _ w (.inl rfl) (.inl rfl)⟩
end Go.Proofs.YtalabahjfmcnbaaGreatDoor
namespace Go.Proofs.YtalabahjfmcnbaaGreatDoor
open Go.RowKit
set_option linter.unusedVariables false

theorem bless_eqs (s t : ByteArray) : Op.bytesLess s.toList t.toList = decide (s.data.toList < t.data.toList) := by
  rw [bytesLess_eq, toList_eq, toList_eq]

end Go.Proofs.YtalabahjfmcnbaaGreatDoor
namespace Go.Proofs.YtalabahjfmcnbaaGreatDoor
set_option linter.unusedVariables false
set_option linter.unusedSectionVars false

section
variable {nm : List UInt8 → Bool}
theorem dir_no {p : List UInt8} (h : names nm p = []) : dirP nm p = [] ∧ baseP nm p = [] := by
  unfold dirP baseP
  rw [h]
  exact ⟨rfl, rfl⟩
theorem dir_one {p : List UInt8} (h : names nm p ≠ []) (hs : (47 : UInt8) ∉ p) : dirP nm p = [] ∧ baseP nm p = p := by
  unfold dirP baseP
  rw [(names_pieces nm h).1, pieces_one p hs]
  exact ⟨rfl, rfl⟩
theorem dir_cut {x r : List UInt8} (h : names nm (x ++ 47 :: r) ≠ []) (hs : (47 : UInt8) ∉ r) : dirP nm (x ++ 47 :: r) = x ∧ baseP nm (x ++ 47 :: r) = r := by
  unfold dirP baseP
  rw [(names_app h).1, pieces_one r hs]
  simp [join_pieces]
/-- How far a path is, as a number: by names, then by bytes. -/
theorem names_take (hs : ∀ x, nm x = true → (47 : UInt8) ∉ x) {p : List UInt8} {m : Nat} (h1 : 1 ≤ m) (hm : m ≤ (names nm p).length) : names nm (joinB ((names nm p).take m)) = (names nm p).take m := by
  have hp : names nm p ≠ [] := fun e => by rw [e] at hm; simp at hm; omega
  obtain ⟨e1, e2, e3, e4⟩ := names_pieces nm hp
  have hne : (names nm p).take m ≠ [] := fun e => by
    have := congrArg List.length e
    rw [List.length_take, List.length_nil] at this
    omega
  have hall : ((names nm p).take m).all nm = true := by
    rw [List.all_eq_true]
    intro x hx
    rw [e1] at hx
    exact List.all_eq_true.1 e3 x (List.mem_of_mem_take hx)
  rw [names_join nm hne hall hs, if_pos]
  refine ⟨?_, ?_⟩
  · by_cases hd : (names nm p).drop m = []
    · have := List.take_append_drop m (names nm p)
      rw [hd, List.append_nil] at this
      rw [this, join_names nm hp]
      exact e2
    · have := join_app _ _ hne hd
      rw [List.take_append_drop, join_names nm hp] at this
      have := congrArg List.length this
      rw [List.length_append] at this
      omega
  · rw [List.length_take, e1]
    omega
theorem dir_is (p : List UInt8) : dirP nm p = joinB ((names nm p).take ((names nm p).length - 1)) := by
  unfold dirP
  rw [List.dropLast_eq_take]

end
/-- Lists of texts, held against each other: below 0, 0, above 0. -/
def cmpL : List (List UInt8) → List (List UInt8) → Int
  | [], [] => 0
  | [], _ :: _ => -1
  | _ :: _, [] => 1
  | x :: a, y :: b => if x = y then cmpL a b else if x < y then -1 else 1
theorem cmpL_lt : ∀ (a b : List (List UInt8)), cmpL a b < 0 ↔ lessL a b = true
  | [], [] => by simp [cmpL, lessL]
  | [], _ :: _ => by simp [cmpL, lessL]
  | _ :: _, [] => by simp [cmpL, lessL]
  | x :: a, y :: b => by
    rw [cmpL, lessL]
    by_cases h : x = y
    · rw [if_pos h, if_pos h]; exact cmpL_lt a b
    · rw [if_neg h, if_neg h]
      by_cases k : x < y <;> simp [k]
theorem cmpL_eq : ∀ (a b : List (List UInt8)), cmpL a b = 0 ↔ a = b
  | [], [] => by simp [cmpL]
  | [], _ :: _ => by simp [cmpL]
  | _ :: _, [] => by simp [cmpL]
  | x :: a, y :: b => by
    rw [cmpL]
    by_cases h : x = y
    · rw [if_pos h, cmpL_eq a b]; simp [h]
    · rw [if_neg h]
      by_cases k : x < y <;> simp [k, h]
theorem cmpL_step {a b : List (List UInt8)} {i : Nat} (ha : i < a.length) (hb : i < b.length) : cmpL (a.drop i) (b.drop i) = if a[i] = b[i] then cmpL (a.drop (i + 1)) (b.drop (i + 1)) else if a[i] < b[i] then -1 else 1 := by
  rw [List.drop_eq_getElem_cons ha, List.drop_eq_getElem_cons hb, cmpL]
section
variable (nm : List UInt8 → Bool)
/-- First by names, then by bytes. -/
theorem less_or (a b : List UInt8) (c : Int) (hc : c < 0 ↔ a < b) : lessP nm a b = decide ((if cmpL (names nm a) (names nm b) = 0 then c else cmpL (names nm a) (names nm b)) < 0) := by
  rw [Bool.eq_iff_iff, decide_eq_true_eq]
  by_cases h : cmpL (names nm a) (names nm b) = 0
  · rw [if_pos h, hc]
    have e := (cmpL_eq _ _).1 h
    unfold lessP
    by_cases ha : names nm a = []
    · rw [if_pos ⟨ha, by rw [← e]; exact ha⟩, decide_eq_true_eq]
    · rw [if_neg (fun k => ha k.1), e, lessL_irrefl]
      have := names_inj nm e ha
      subst this
      simp [List.lt_irrefl]
  · rw [if_neg h, cmpL_lt]
    unfold lessP
    rw [if_neg]
    rintro ⟨k1, k2⟩
    rw [k1, k2] at h
    exact h rfl
end
end Go.Proofs.YtalabahjfmcnbaaGreatDoor
namespace Go.Proofs.YtalabahjfmcnbaaGreatDoor
open Go.RowKit
set_option linter.unusedVariables false

def RightC : Prop := ∀ (s : ByteArray) (w : World), s.size ≤ 100000 → Calls Tryz.prog 52 #[.string s] w fun e w' => e = .returned (.bool (decide (pnames s ≠ []))) ∧ Below w.heap.size w w'
def DirC : Prop := ∀ (s : ByteArray) (w : World), s.size ≤ 100000 → Calls Tryz.prog 86 #[.string s] w fun e w' => e = .returned (.string (toB (dirP nameP s.data.toList))) ∧ Below w.heap.size w w'
def LessC : Prop := ∀ (s t : ByteArray) (w : World), s.size ≤ 100000 → t.size ≤ 100000 → Calls Tryz.prog 51 #[.string s, .string t] w fun e w' => e = .returned (.bool (lessP nameP s.data.toList t.data.toList)) ∧ Below w.heap.size w w'
end Go.Proofs.YtalabahjfmcnbaaGreatDoor
namespace Go.Proofs.YtalabahjfmcnbaaGreatDoor
open Go.RowKit
set_option linter.unusedVariables false

/-- Where a path stands in files; below 0: nowhere. -/
def findZ (fs : List Fm) (p : ByteArray) : Int := match fs.findIdx? fun f => decide (f.p = p) with
  | some i => i
  | none => -1
theorem findZ_cases (fs : List Fm) (p : ByteArray) : (∃ k, ∃ hk : k < fs.length, findZ fs p = k ∧ fs[k].p = p ∧ ∀ j (hj : j < fs.length), j < k → fs[j].p ≠ p) ∨ (findZ fs p = -1 ∧ ∀ j (hj : j < fs.length), fs[j].p ≠ p) := by
  unfold findZ
  cases h : fs.findIdx? (fun f => decide (f.p = p)) with
  | none =>
    rw [List.findIdx?_eq_none_iff] at h
    exact .inr ⟨rfl, fun j hj => by simpa using h fs[j] (List.getElem_mem _)⟩
  | some k =>
    rw [List.findIdx?_eq_some_iff_getElem] at h
    obtain ⟨hk, h1, h2⟩ := h
    exact .inl ⟨k, hk, rfl, by simpa using h1, fun j hj hjk => by simpa using h2 j hjk⟩
/-- Which file is found first. -/
def dirAt (fs : List Fm) (p : ByteArray) : Bool := decide (p = ⟨#[]⟩) || (match fs.find? fun f => decide (f.p = p) with
  | some f => f.d
  | none => false)
theorem find_at {fs : List Fm} {p : ByteArray} {k : Nat} (hk : k < fs.length) (he : fs[k].p = p) (hn : ∀ j (hj : j < fs.length), j < k → fs[j].p ≠ p) : fs.find? (fun f => decide (f.p = p)) = some fs[k] := by
  rw [List.find?_eq_some_iff_getElem]
  exact ⟨by simpa using he, k, hk, rfl, fun j hj => by simpa using hn j (by omega) hj⟩
theorem find_none {fs : List Fm} {p : ByteArray} (hn : ∀ j (hj : j < fs.length), fs[j].p ≠ p) : fs.find? (fun f => decide (f.p = p)) = none := by
  rw [List.find?_eq_none]
  intro f hf
  obtain ⟨j, hj, rfl⟩ := List.getElem_of_mem hf
  simpa using hn j hj
end Go.Proofs.YtalabahjfmcnbaaGreatDoor
namespace Go.Proofs.YtalabahjfmcnbaaGreatDoor
open Go.RowKit
set_option linter.unusedVariables false

theorem right_c : RightC := fun s w hs => pright_any s w (by omega)
end Go.Proofs.YtalabahjfmcnbaaGreatDoor
namespace Go.Proofs.YtalabahjfmcnbaaGreatDoor
open Go.RowKit
set_option linter.unusedVariables false

theorem at_bang {s : ByteArray} {j : Nat} (h : j < s.size) : s.data[j]! = s[j] := by
  have : j < s.data.size := h
  rw [getElem!_pos s.data j this]
  rfl
/-- Where the last slash is. -/
theorem last_cut /- 156 -/ (s : ByteArray) : (∃ x r, s.data.toList = x ++ 47 :: r ∧ (47 : UInt8) ∉ r ∧ Lib.lastIndexByte s 47 = (x.length : Int)) ∨ ((47 : UInt8) ∉ s.data.toList ∧ Lib.lastIndexByte s 47 = -1) := by
  have key : ∀ j (hj : j < s.size), ((s.data[j]!).toNat : Int) ≠ 47 → s.data.toList[j]? ≠ some 47 := by
    intro j hj h e
    rw [byte_get hj, Option.some.injEq] at e
    apply h
    rw [at_bang hj, e]
    rfl
  have hsz : s.data.toList.length = s.size := by simp
  rcases Lib.lastIndexByte_spec s 47 with ⟨e, hn⟩ | ⟨i, hi, e, hc, hn⟩
  · refine .inr ⟨fun hm => ?_, e⟩
    obtain ⟨j, hj, hv⟩ := List.getElem_of_mem hm
    rw [hsz] at hj
    exact key j hj (hn j hj) (by rw [List.getElem?_eq_getElem (by omega), hv])
  · refine .inl ⟨s.data.toList.take i, s.data.toList.drop (i + 1), ?_, fun hm => ?_, ?_⟩
    · have hv : s.data.toList[i]'(by omega) = 47 := by
        have : ((s[i].toNat : Nat) : Int) = 47 := by rw [← at_bang hi]; exact hc
        have h2 := byte_get hi
        rw [List.getElem?_eq_getElem (by omega), Option.some.injEq] at h2
        rw [h2]
        exact UInt8.toNat_inj.1 (by simpa using (by omega : s[i].toNat = 47))
      have h1 := (List.take_append_drop i s.data.toList).symm
      rwa [List.drop_eq_getElem_cons (by omega), hv] at h1
    · obtain ⟨j, hj, hv⟩ := List.getElem_of_mem hm
      rw [List.length_drop, hsz] at hj
      rw [List.getElem_drop] at hv
      refine key (i + 1 + j) (by omega) (hn _ (by omega) (by omega)) ?_
      rw [List.getElem?_eq_getElem (by omega), hv]
    · rw [e, List.length_take, hsz, Nat.min_eq_left (by omega)]
theorem lastindex_any (s : ByteArray) (i : Int) (hi : Lib.lastIndexByte s 47 = i) (w : World) (hs : s.size ≤ 1000000) : Calls Tryz.prog 156 #[.string s, .string ⟨#[47]⟩] w fun e w' => e = .returned (.int .i64 i) ∧ w' = w := by
  have h := Tryz.strings_LastIndex_one s ⟨#[47]⟩ rfl (by omega) w
  have e : (((⟨#[47]⟩ : ByteArray)[0]'(by decide)).toNat : Int) = 47 := by decide
  rw [e, hi] at h
  exact h

set_option maxHeartbeats 1000000 in
set_option maxRecDepth 100000 in
theorem cut_any (s : ByteArray) (w : World) (hs : s.size ≤ 1000000) :
    Calls Tryz.prog 127 #[.string s] w fun e w' => e = .returned (.tuple #[.string (toB (dirP nameP s.data.toList)), .string (toB (baseP nameP s.data.toList))]) ∧ Below w.heap.size w w' := by
  have C := Lib.hid (pright_any s w hs)
  unfold pnames at C
  by_cases hn : names nameP s.data.toList = []
  · obtain ⟨h1, h2⟩ := dir_no (nm := nameP) hn
    rw [h1, h2]
    rw [decide_eq_false (by simp [hn])] at C
    clear h1 h2 hn
    go_enter Tryz.func127, Tryz.ntmps127
    go_wp2_with fail
    refine C.out.mono ?_
    rintro e w1 ⟨rfl, hb⟩
    have HB := Lib.hid hb
    clear hb
    go_wp2
    go_ret2
    exact ⟨rfl, HB.out⟩
  · rw [decide_eq_true hn] at C
    rcases last_cut s with ⟨x, r, hx, hr, hi⟩ | ⟨hm, hi⟩
    · have e := dir_cut (nm := nameP) (x := x) (r := r) (by rw [← hx]; exact hn) hr
      rw [← hx] at e
      rw [e.1, e.2]
      have hl : s.size = x.length + 1 + r.length := by
        have := congrArg List.length hx
        simp at this
        omega
      have d1 : Hid (s.extract 0 x.length = toB x) := by show _ = _; rw [ext_toB, hx]; simp
      have d2 : Hid (s.extract (x.length + 1) s.size = toB r) := by
        show _ = _
        rw [ext_toB, hx, show x ++ 47 :: r = (x ++ [47]) ++ r by simp, List.drop_left' (by simp), List.take_of_length_le (by omega)]
      have CL := fun w => lastindex_any s x.length hi w hs
      have CL := Lib.hid CL
      have hi6 : x.length ≤ 1000000 := by omega
      have q1 : (x.length : Int) ≤ (s.size : Int) := by omega
      have q2 : (x.length : Int) + 1 ≤ (s.size : Int) := by omega
      clear e hx hr hi hn hl
      generalize toB x = y at *
      generalize toB r = z at *
      generalize x.length = i at *
      have hm : max (i : Int) 0 = (i : Int) := by omega
      have hw : IntKind.i64.wrap ((i : Int) + 1) = (i : Int) + 1 := IntWalk.i64_in _ (by omega)
      go_enter Tryz.func127, Tryz.ntmps127
      go_wp2_with fail
      refine C.out.mono ?_
      rintro e w1 ⟨rfl, hb⟩
      have HB := Lib.hid hb
      clear hb
      go_wp2_with fail
      refine (CL.out _).mono ?_
      rintro e w2 ⟨rfl, rfl⟩
      go_wp2
      go_quiet (fail)
      go_wp2
      go_ret2
      rw [d1.out, d2.out]
      exact ⟨rfl, below_drewN HB.out _⟩
    · have e := dir_one (nm := nameP) hn hm
      rw [e.1, e.2, toB_of]
      have CL := fun w => lastindex_any s (-1) hi w hs
      have CL := Lib.hid CL
      clear e hm hi hn
      have hw : IntKind.i64.wrap ((-1 : Int) + 1) = 0 := by decide
      have d1 : Hid (s.extract 0 (max (-1 : Int) 0).toNat = toB []) := by show _ = _; rw [ext_toB]; rfl
      go_enter Tryz.func127, Tryz.ntmps127
      go_wp2_with fail
      refine C.out.mono ?_
      rintro e w1 ⟨rfl, hb⟩
      have HB := Lib.hid hb
      clear hb
      go_wp2_with fail
      refine (CL.out _).mono ?_
      rintro e w2 ⟨rfl, rfl⟩
      go_wp2
      go_quiet (fail)
      go_wp2
      go_ret2
      rw [d1.out]
      exact ⟨rfl, below_drewN HB.out _⟩
theorem dir_c : DirC := by
  intro s w hs
  have C := Lib.hid (cut_any s w (by omega))
  generalize toB (dirP nameP s.data.toList) = x at *
  generalize toB (baseP nameP s.data.toList) = y at *
  go_enter Tryz.func86, Tryz.ntmps86
  go_wp2_with fail
  refine C.out.mono ?_
  rintro e w1 ⟨rfl, hb⟩
  have HB := Lib.hid hb
  clear hb
  go_wp2
  go_ret
  exact ⟨rfl, HB.out⟩
end Go.Proofs.YtalabahjfmcnbaaGreatDoor
namespace Go.Proofs.YtalabahjfmcnbaaGreatDoor
open Go.RowKit
set_option linter.unusedVariables false

theorem nameP_slash {x : List UInt8} (h : nameP x = true) : (47 : UInt8) ∉ x := by
  intro hm
  unfold nameP rightB at h
  rw [Bool.and_eq_true] at h
  have h2 := h.2
  unfold allIn at h2
  rw [List.all_eq_true] at h2
  have := h2 47 (by rw [of_toB]; exact hm)
  revert this
  decide +kernel

end Go.Proofs.YtalabahjfmcnbaaGreatDoor
namespace Go.Proofs.YtalabahjfmcnbaaGreatDoor
open Go.RowKit
set_option linter.unusedVariables false

theorem compareBytes_lt : ∀ (a b : List UInt8), Lib.compareBytes a b < 0 ↔ a < b
  | [], [] => by simp [Lib.compareBytes]
  | [], _ :: _ => by simp [Lib.compareBytes]
  | _ :: _, [] => by simp [Lib.compareBytes]
  | a :: l, b :: m => by
    have ih := compareBytes_lt l m
    unfold Lib.compareBytes
    rw [List.cons_lt_cons_iff]
    by_cases h : a < b
    · simp [h]
    · by_cases k : b < a
      · have : a ≠ b := by rintro rfl; exact h k
        simp [h, k, this]
      · have : a = b := UInt8.le_antisymm (UInt8.not_lt.1 k) (UInt8.not_lt.1 h)
        simp [this, ih]
def cmpB (x y : List UInt8) : Int := if x = y then 0 else if x < y then -1 else 1
set_option maxHeartbeats 1000000 in
theorem cmpstr_any (s t : ByteArray) (x y : List UInt8) (hx : s.data.toList = x) (hy : t.data.toList = y) (w : World) :
    Calls Tryz.prog 123 #[.string s, .string t] w fun e w' => e = .returned (.int .i64 (cmpB x y)) ∧ w' = w := by
  have h1 : (s.toList == s.toList) = true := by simp
  have h2 : (t.toList == t.toList) = true := by simp
  have N1 : ∀ (z : ByteArray) w, Calls Tryz.prog 146 #[.string z] w fun e w' => e = .returned (.bool false) ∧ w' = w := by
    intro z w
    have h1 : (z.toList == z.toList) = true := by simp
    go_enter Tryz.func146, Tryz.ntmps146
    go_wp2
    go_ret
    exact ⟨rfl, rfl⟩
  have HN := Lib.hid N1
  have b1 : Op.bytesLess s.toList t.toList = decide (x < y) := by rw [bless_eqs, hx, hy]
  have b2 : Op.bytesLess t.toList s.toList = decide (y < x) := by rw [bless_eqs, hx, hy]
  have b3 : (s.toList == t.toList) = decide (x = y) := by
    rw [Bool.eq_iff_iff, beq_iff_eq, decide_eq_true_eq, toList_eq, toList_eq, hx, hy]
  clear N1 h1 h2
  rcases tri x y with h | h | h
  · have e : cmpB x y = -1 := by
      unfold cmpB
      rw [if_neg (by rintro rfl; exact List.lt_irrefl _ h), if_pos h]
    rw [e]
    rw [decide_eq_true h] at b1
    clear e b2 b3 hx hy h
    go_enter Tryz.func123, Tryz.ntmps123
    go_wp2_with fail
    refine (HN.out _ _).mono ?_
    rintro e w1 ⟨rfl, rfl⟩
    go_wp2_with fail
    refine (HN.out _ _).mono ?_
    rintro e w1 ⟨rfl, rfl⟩
    go_wp2
    go_ret
    exact ⟨rfl, rfl⟩
  · have e : cmpB x y = 0 := if_pos h
    rw [e]
    subst h
    rw [decide_eq_false (List.lt_irrefl _)] at b1 b2
    rw [decide_eq_true rfl] at b3
    clear e hx hy
    go_enter Tryz.func123, Tryz.ntmps123
    go_wp2_with fail
    refine (HN.out _ _).mono ?_
    rintro e w1 ⟨rfl, rfl⟩
    go_wp2_with fail
    refine (HN.out _ _).mono ?_
    rintro e w1 ⟨rfl, rfl⟩
    go_wp2
    go_ret
    exact ⟨rfl, rfl⟩
  · have e : cmpB x y = 1 := by
      unfold cmpB
      rw [if_neg (by rintro rfl; exact List.lt_irrefl _ h), if_neg (fun k => List.lt_irrefl _ (List.lt_trans h k))]
    rw [e]
    rw [decide_eq_false (fun k => List.lt_irrefl _ (List.lt_trans h k))] at b1
    rw [decide_eq_true h] at b2
    rw [decide_eq_false (by rintro rfl; exact List.lt_irrefl _ h)] at b3
    clear e hx hy h
    go_enter Tryz.func123, Tryz.ntmps123
    go_wp2_with fail
    refine (HN.out _ _).mono ?_
    rintro e w1 ⟨rfl, rfl⟩
    go_wp2_with fail
    refine (HN.out _ _).mono ?_
    rintro e w1 ⟨rfl, rfl⟩
    go_wp2
    go_ret
    exact ⟨rfl, rfl⟩
set_option maxHeartbeats 1000000 in
set_option maxRecDepth 100000 in
theorem or_any (b : Nat) (x y z : Int) (w : World) (h0 : w.cell? ⟨b, 0, none⟩ = some (.int .i64 x)) (h1 : w.cell? ⟨b, 1, none⟩ = some (.int .i64 y)) (hz : z = if x = 0 then y else x) :
    Calls Tryz.prog 82 #[.slice (some ⟨b, 0, none⟩) 2 2] w fun e w' => e = .returned (.int .i64 z) ∧ w' = w := by
  go_enter Tryz.func82, Tryz.ntmps82
  go_wp2
  go_loopw [8] (fun i wr => ∃ k : Nat, k ≤ 2 ∧ i = .int .i64 (k : Int) ∧ Hid ((1 ≤ k → x = 0) ∧ (2 ≤ k → y = 0)) ∧ wr = w) (fun i _ => 2 - (intOf i).toNat)
  case atStart => exact ⟨0, by omega, rfl, ⟨fun h => by omega, fun h => by omega⟩, rfl⟩
  case round =>
    obtain ⟨k, hk, rfl, hxy, rfl⟩ := hrel
    have hk3 : k = 0 ∨ k = 1 ∨ k = 2 := by omega
    rcases hk3 with rfl | rfl | rfl
    · by_cases hx : x = 0
      · subst hx
        clear hz h1 hxy
        go_wp2
        go_roundw
        case rel => exact ⟨1, by omega, by go_num, ⟨fun _ => by first | rfl | trivial, fun h => by omega⟩, by first | rfl | trivial⟩
        case measure => simp [intOf] <;> omega
      · have e : z = x := by rw [hz, if_neg hx]
        subst e
        have hb : (z == 0) = false := by simpa using hx
        have hb2 : (z != 0) = true := by simpa using hx
        clear hz h1 hxy
        go_wp2
        go_ret
        exact ⟨rfl, rfl⟩
    · have hx := hxy.out.1 (by omega)
      have e : z = y := by rw [hz, if_pos hx]
      subst e
      by_cases hy : z = 0
      · subst hy
        clear hz h0 hxy
        go_wp2
        go_roundw
        case rel => exact ⟨2, by omega, by go_num, ⟨fun _ => hx, fun h => by first | rfl | trivial⟩, by first | rfl | trivial⟩
        case measure => simp [intOf] <;> omega
      · have hb : (z == 0) = false := by simpa using hy
        have hb2 : (z != 0) = true := by simpa using hy
        clear hz h0 hxy
        go_wp2
        go_ret
        exact ⟨rfl, rfl⟩
    · have hx := hxy.out.1 (by omega)
      have hy := hxy.out.2 (by omega)
      have e : z = 0 := by rw [hz, if_pos hx, hy]
      subst e
      clear hz h0 h1 hxy
      go_wp2
      go_ret
      exact ⟨rfl, rfl⟩

theorem cmpL_next {a b : List (List UInt8)} {i : Nat} (ha : i < a.length) (hb : i < b.length) : cmpL (a.drop i) (b.drop i) = if cmpB a[i] b[i] = 0 then cmpL (a.drop (i + 1)) (b.drop (i + 1)) else cmpB a[i] b[i] := by
  rw [cmpL_step ha hb]
  unfold cmpB
  by_cases h : a[i] = b[i]
  · simp [h]
  · by_cases k : a[i] < b[i] <;> simp [h, k]
set_option maxHeartbeats 1000000 in
set_option maxRecDepth 100000 in
theorem scompare_any (A A2 : Option Addr) (la lb : List (List UInt8)) (cap cap2 : Nat) (w : World) (c : Int) (hc : cmpL la lb = c) (hs : Strs w w.heap.size A (toBs la)) (ht : Strs w w.heap.size A2 (toBs lb)) (hn : la.length ≤ 1000000) (hn2 : lb.length ≤ 1000000) :
    Calls Tryz.prog 83 #[.slice A la.length cap, .slice A2 lb.length cap2] w fun e w' => e = .returned (.int .i64 c) ∧ w' = w := by
  have HS := Lib.hid hs
  have HT := Lib.hid ht
  have HC := Lib.hid hc
  clear hs ht hc
  go_enter Tryz.func83, Tryz.ntmps83
  go_wp2
  go_loopw [11] (fun i wr => ∃ k : Nat, k ≤ la.length ∧ i = .int .i64 (k : Int) ∧ Hid (k ≤ lb.length ∧ cmpL (la.drop k) (lb.drop k) = c) ∧ wr = w) (fun i _ => la.length - (intOf i).toNat)
  case atStart => exact ⟨0, by omega, rfl, ⟨Nat.zero_le _, HC.out⟩, rfl⟩
  case round =>
    obtain ⟨k, hk, rfl, hck, rfl⟩ := hrel
    obtain ⟨hkb, hcc⟩ := hck.out
    by_cases hlt : k < la.length
    · obtain ⟨g, off, rfl, hg, hcell⟩ := HS.out.at_ (k := k) (by rw [toBs_len]; exact hlt)
      have e1 : (toBs la)[k]'(by rw [toBs_len]; exact hlt) = toB la[k] := by simp [toBs]
      rw [e1] at hcell
      by_cases hlt2 : k < lb.length
      · obtain ⟨g2, off2, rfl, hg2, hcell2⟩ := HT.out.at_ (k := k) (by rw [toBs_len]; exact hlt2)
        have e2 : (toBs lb)[k]'(by rw [toBs_len]; exact hlt2) = toB lb[k] := by simp [toBs]
        rw [e2] at hcell2
        have hnx := cmpL_next hlt hlt2
        rw [hcc] at hnx
        have CC := Lib.hid (fun w => cmpstr_any (toB la[k]) (toB lb[k]) la[k] lb[k] (of_toB _) (of_toB _) w)
        obtain ⟨d, hd⟩ : ∃ d, cmpB la[k] lb[k] = d := ⟨_, rfl⟩
        rw [hd] at CC hnx
        have hq : ¬ ((lb.length : Int) ≤ (k : Int)) := by omega
        by_cases h0 : d = 0
        · subst h0
          rw [if_pos rfl] at hnx
          have hck2 : Hid (k + 1 ≤ lb.length ∧ cmpL (la.drop (k + 1)) (lb.drop (k + 1)) = c) := ⟨by omega, hnx.symm⟩
          generalize toB la[k] = x at *
          generalize toB lb[k] = y at *
          clear hck hkb hcc hnx hd e1 e2 hlt2
          go_wp2_with fail
          refine (CC.out _).mono ?_
          rintro e w1 ⟨rfl, rfl⟩
          go_wp2
          go_roundw
          case rel => exact ⟨k + 1, by omega, by go_num, hck2, by first | rfl | trivial⟩
          case measure => simp [intOf] <;> omega
        · rw [if_neg h0] at hnx
          subst hnx
          have hb : (c == 0) = false := by simpa using h0
          generalize toB la[k] = x at *
          generalize toB lb[k] = y at *
          clear hck hkb hcc hd e1 e2 hlt2
          go_wp2_with fail
          refine (CC.out _).mono ?_
          rintro e w1 ⟨rfl, rfl⟩
          go_wp2
          go_ret
          exact ⟨rfl, rfl⟩
      · have hq : ((lb.length : Int) ≤ (k : Int)) := by omega
        have e0 : lb.drop k = [] := List.drop_eq_nil_of_le (by omega)
        have hcf : c = 1 := by
          rw [← hcc, e0, List.drop_eq_getElem_cons hlt]
          rfl
        subst hcf
        clear hck hkb hcc e0 e1 hlt2
        go_wp2
        go_ret
        exact ⟨rfl, rfl⟩
    · obtain rfl : k = la.length := by omega
      have e0 : la.drop la.length = [] := List.drop_length
      rw [e0] at hcc
      by_cases hlt2 : la.length < lb.length
      · have hcf : c = -1 := by
          rw [← hcc, List.drop_eq_getElem_cons hlt2]
          rfl
        subst hcf
        have hq : (la.length : Int) < (lb.length : Int) := by omega
        clear hck hkb hcc e0 hlt2 hlt
        go_wp2
        go_ret
        exact ⟨rfl, rfl⟩
      · have hcf : c = 0 := by
          rw [← hcc, List.drop_eq_nil_of_le (by omega)]
          rfl
        subst hcf
        have hq : ¬ (la.length : Int) < (lb.length : Int) := by omega
        clear hck hkb hcc e0 hlt2 hlt
        go_wp2
        go_ret
        exact ⟨rfl, rfl⟩
end Go.Proofs.YtalabahjfmcnbaaGreatDoor
namespace Go.Proofs.YtalabahjfmcnbaaGreatDoor
open Go.RowKit
set_option linter.unusedVariables false

theorem strcompare_any (s t : ByteArray) (c : Int) (hc : Lib.compareBytes s.data.toList t.data.toList = c) (w : World) :
    Calls Tryz.prog 85 #[.string s, .string t] w fun e w' => e = .returned (.int .i64 c) ∧ w' = w := by
  have h := Tryz.strings_Compare s t w
  rwa [hc] at h
theorem pnames_len (s : ByteArray) : (pnames s).length ≤ 16 := by
  unfold pnames names
  split
  · rename_i h; exact h.2.2
  · simp
set_option maxHeartbeats 2000000 in
set_option maxRecDepth 100000 in
theorem less_c : LessC := by
  intro s t w hs ht
  rw [less_or nameP s.data.toList t.data.toList _ (compareBytes_lt _ _)]
  obtain ⟨d, hd⟩ : ∃ d, Lib.compareBytes s.data.toList t.data.toList = d := ⟨_, rfl⟩
  obtain ⟨c, hc⟩ : ∃ c, cmpL (pnames s) (pnames t) = c := ⟨_, rfl⟩
  rw [show cmpL (names nameP s.data.toList) (names nameP t.data.toList) = c from hc, hd]
  obtain ⟨z, hz⟩ : ∃ z, (if c = 0 then d else c) = z := ⟨_, rfl⟩
  rw [hz]
  have CA := Lib.hid (fun w => split_any s w (by omega))
  have CB := Lib.hid (fun w => split_any t w (by omega))
  have CS := Lib.hid (strcompare_any s t d hd)
  have hn1 := pnames_len s
  have hn2 := pnames_len t
  have HC := Lib.hid hc
  have HZ := Lib.hid hz
  generalize pnames s = l1 at *
  generalize pnames t = l2 at *
  clear hd hc hz
  go_enter Tryz.func51, Tryz.ntmps51
  go_wp2_with fail
  refine (CA.out _).mono ?_
  rintro e w1 ⟨A1, k1, rfl, hA1, hs1, hb1⟩
  have HB1 := Lib.hid hb1
  have S1 := Lib.hid hs1
  clear hb1 hs1 hA1
  go_wp2_with fail
  refine (CB.out _).mono ?_
  rintro e w2 ⟨A2, k2, rfl, hA2, hs2, hb2⟩
  have HB2 := Lib.hid (HB1.out.trans (hb2.mono HB1.out.size))
  have S2 := Lib.hid hs2
  have S1 := Lib.hid (S1.out.on hb2)
  clear hb2 hs2 hA2 HB1
  have CC := Lib.hid (scompare_any A1 A2 l1 l2 k1 k2 w2 c HC.out S1.out S2.out (by omega) (by omega))
  go_wp2_with fail
  refine CC.out.mono ?_
  rintro e w3 ⟨rfl, rfl⟩
  go_wp2_with fail
  refine (CS.out _).mono ?_
  rintro e w4 ⟨rfl, rfl⟩
  clear CC CS
  have CO := Lib.hid (fun ty => or_any w4.heap.size c d z (w4.alloc (.cells #[.int .i64 c, .int .i64 d] ty)) (by rw [World.cell?_alloc_new]; rfl) (by rw [World.cell?_alloc_new]; rfl) HZ.out.symm)
  have HA := Lib.hid (fun ty => HB2.out.trans (((Below.refl _ _).alloc (Nat.le_refl _) (.cells #[.int .i64 c, .int .i64 d] ty) : Below w4.heap.size w4 _).mono HB2.out.size))
  go_wp2_with fail
  refine (CO.out _).mono ?_
  rintro e w5 ⟨rfl, rfl⟩
  go_wp2
  go_ret
  exact ⟨rfl, HA.out _⟩

end Go.Proofs.YtalabahjfmcnbaaGreatDoor
namespace Go.Proofs.YtalabahjfmcnbaaGreatDoor
open Go.RowKit
set_option linter.unusedVariables false

def withoutF (fs : List Fm) (p : ByteArray) : List Fm := fs.filter fun f => decide (f.p ≠ p)
end Go.Proofs.YtalabahjfmcnbaaGreatDoor
namespace Go.Proofs.YtalabahjfmcnbaaGreatDoor
open Go.RowKit
set_option linter.unusedVariables false

def lessF (x y : Fm) : Bool := lessP nameP x.p.data.toList y.p.data.toList
end Go.Proofs.YtalabahjfmcnbaaGreatDoor
