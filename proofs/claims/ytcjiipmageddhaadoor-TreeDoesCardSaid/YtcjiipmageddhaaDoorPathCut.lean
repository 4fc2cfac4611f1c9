
/- Package path's cut, Dir, Base: the last slash. -/
import Derived.Test.YtcjiipmageddhaaDoorPathCode
namespace Go.Proofs.YtcjiipmageddhaaDoor
open Go.RowKit
set_option linter.unusedVariables false

theorem at_bang {s : ByteArray} {j : Nat} (h : j < s.size) : s.data[j]! = s[j] := by
  have : j < s.data.size := h
  rw [getElem!_pos s.data j this]
  rfl
/-- Where the last slash is. -/
theorem last_cut (s : ByteArray) : (∃ x r, s.data.toList = x ++ 47 :: r ∧ (47 : UInt8) ∉ r ∧ Lib.lastIndexByte s 47 = (x.length : Int)) ∨ ((47 : UInt8) ∉ s.data.toList ∧ Lib.lastIndexByte s 47 = -1) := by
  have key : ∀ j (hj : j < s.size), ((s.data[j]!).toNat : Int) ≠ 47 → s.data.toList[j]? ≠ some 47 := by
    intro j hj h e
    rw [byte_get hj, Option.some.injEq] at e
    apply h
    rw [at_bang hj, e]
    rfl
  have hsz : s.data.toList.length = s.size := by simp
  rcases Lib.lastIndexByte_spec s 47 with ⟨e, hn⟩ | ⟨i, hi, e, hc, hn⟩
  · refine .inr ⟨fun hm => ?_, e⟩
    obtain ⟨j, hj, hv⟩ := List.getElem_of_mem hm
    rw [hsz] at hj
    exact key j hj (hn j hj) (by rw [List.getElem?_eq_getElem (by omega), hv])
  · refine .inl ⟨s.data.toList.take i, s.data.toList.drop (i + 1), ?_, fun hm => ?_, ?_⟩
    · have hv : s.data.toList[i]'(by omega) = 47 := by
        have : ((s[i].toNat : Nat) : Int) = 47 := by rw [← at_bang hi]; exact hc
        have h2 := byte_get hi
        rw [List.getElem?_eq_getElem (by omega), Option.some.injEq] at h2
        rw [h2]
        exact UInt8.toNat_inj.1 (by simpa using (by omega : s[i].toNat = 47))
      have h1 := (List.take_append_drop i s.data.toList).symm
      rwa [List.drop_eq_getElem_cons (by omega), hv] at h1
    · obtain ⟨j, hj, hv⟩ := List.getElem_of_mem hm
      rw [List.length_drop, hsz] at hj
      rw [List.getElem_drop] at hv
      refine key (i + 1 + j) (by omega) (hn _ (by omega) (by omega)) ?_
      rw [List.getElem?_eq_getElem (by omega), hv]
    · rw [e, List.length_take, hsz, Nat.min_eq_left (by omega)]
theorem lastindex_any (s : ByteArray) (i : Int) (hi : Lib.lastIndexByte s 47 = i) (w : World) (hs : s.size ≤ 1000000) : Calls Tryd.prog 67 #[.string s, .string ⟨#[47]⟩] w fun e w' => e = .returned (.int .i64 i) ∧ w' = w := by
  have h := Tryd.strings_LastIndex_one s ⟨#[47]⟩ rfl (by omega) w
  have e : (((⟨#[47]⟩ : ByteArray)[0]'(by decide)).toNat : Int) = 47 := by decide
  rw [e, hi] at h
  exact h

set_option maxHeartbeats 1000000 in
set_option maxRecDepth 100000 in
theorem cut_any (s : ByteArray) (w : World) (hs : s.size ≤ 1000000) :
    Calls Tryd.prog 59 #[.string s] w fun e w' => e = .returned (.tuple #[.string (toB (dirP nameP s.data.toList)), .string (toB (baseP nameP s.data.toList))]) ∧ Below w.heap.size w w' := by
  have C := Lib.hid (pright_any s w hs)
  unfold pnames at C
  by_cases hn : names nameP s.data.toList = []
  · obtain ⟨h1, h2⟩ := dir_no (nm := nameP) hn
    rw [h1, h2]
    rw [decide_eq_false (by simp [hn])] at C
    clear h1 h2 hn
    go_enter Tryd.func59, Tryd.ntmps59
    go_wp2_with fail
    refine C.out.mono ?_
    rintro e w1 ⟨rfl, hb⟩
    have HB := Lib.hid hb
    clear hb
    go_wp2
    go_ret2
    exact ⟨rfl, HB.out⟩
  · rw [decide_eq_true hn] at C
    rcases last_cut s with ⟨x, r, hx, hr, hi⟩ | ⟨hm, hi⟩
    · have e := dir_cut (nm := nameP) (x := x) (r := r) (by rw [← hx]; exact hn) hr
      rw [← hx] at e
      rw [e.1, e.2]
      have hl : s.size = x.length + 1 + r.length := by
        have := congrArg List.length hx
        simp at this
        omega
      have d1 : Hid (s.extract 0 x.length = toB x) := by show _ = _; rw [ext_toB, hx]; simp
      have d2 : Hid (s.extract (x.length + 1) s.size = toB r) := by
        show _ = _
        rw [ext_toB, hx, show x ++ 47 :: r = (x ++ [47]) ++ r by simp, List.drop_left' (by simp), List.take_of_length_le (by omega)]
      have CL := fun w => lastindex_any s x.length hi w hs
      have CL := Lib.hid CL
      have hi6 : x.length ≤ 1000000 := by omega
      have q1 : (x.length : Int) ≤ (s.size : Int) := by omega
      have q2 : (x.length : Int) + 1 ≤ (s.size : Int) := by omega
      clear e hx hr hi hn hl
      generalize toB x = y at *
      generalize toB r = z at *
      generalize x.length = i at *
      have hm : max (i : Int) 0 = (i : Int) := by omega
      have hw : IntKind.i64.wrap ((i : Int) + 1) = (i : Int) + 1 := IntWalk.i64_in _ (by omega)
      go_enter Tryd.func59, Tryd.ntmps59
      go_wp2_with fail
      refine C.out.mono ?_
      rintro e w1 ⟨rfl, hb⟩
      have HB := Lib.hid hb
      clear hb
      go_wp2_with fail
      refine (CL.out _).mono ?_
      rintro e w2 ⟨rfl, rfl⟩
      go_wp2
      go_quiet (fail)
      go_wp2
      go_ret2
      rw [d1.out, d2.out]
      exact ⟨rfl, below_drewN HB.out _⟩
    · have e := dir_one (nm := nameP) hn hm
      rw [e.1, e.2, toB_of]
      have CL := fun w => lastindex_any s (-1) hi w hs
      have CL := Lib.hid CL
      clear e hm hi hn
      have hw : IntKind.i64.wrap ((-1 : Int) + 1) = 0 := by decide
      have d1 : Hid (s.extract 0 (max (-1 : Int) 0).toNat = toB []) := by show _ = _; rw [ext_toB]; rfl
      go_enter Tryd.func59, Tryd.ntmps59
      go_wp2_with fail
      refine C.out.mono ?_
      rintro e w1 ⟨rfl, hb⟩
      have HB := Lib.hid hb
      clear hb
      go_wp2_with fail
      refine (CL.out _).mono ?_
      rintro e w2 ⟨rfl, rfl⟩
      go_wp2
      go_quiet (fail)
      go_wp2
      go_ret2
      rw [d1.out]
      exact ⟨rfl, below_drewN HB.out _⟩
theorem dir_c : DirC := by
  intro s w hs
  have C := Lib.hid (cut_any s w (by omega))
  generalize toB (dirP nameP s.data.toList) = x at *
  generalize toB (baseP nameP s.data.toList) = y at *
  go_enter Tryd.func46, Tryd.ntmps46
  go_wp2_with fail
  refine C.out.mono ?_
  rintro e w1 ⟨rfl, hb⟩
  have HB := Lib.hid hb
  clear hb
  go_wp2
  go_ret
  exact ⟨rfl, HB.out⟩
end Go.Proofs.YtcjiipmageddhaaDoor
