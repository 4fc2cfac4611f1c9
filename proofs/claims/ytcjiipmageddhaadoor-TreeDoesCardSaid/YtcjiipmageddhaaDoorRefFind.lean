
/- The reference's Find, Dir, Up, Same of layer 6. -/
import Derived.Test.YtcjiipmageddhaaDoorFileRow
import Derived.Test.YtcjiipmageddhaaDoorRefPath2
import Derived.Test.YtcjiipmageddhaaDoorPathMath
import Derived.Test.YtcjiipmageddhaaDoorPathSpec
import Derived.Test.YtcjiipmageddhaaDoorDSlice
namespace Go.Proofs.YtcjiipmageddhaaDoor
open Go.RowKit
set_option linter.unusedVariables false

/-- Where a path stands in files; below 0: nowhere. -/
def findZ (fs : List Fm) (p : ByteArray) : Int := match fs.findIdx? fun f => decide (f.p = p) with
  | some i => i
  | none => -1
theorem findZ_at {fs : List Fm} {p : ByteArray} {k : Nat} (hk : k < fs.length) (he : fs[k].p = p) (hn : ∀ j (hj : j < fs.length), j < k → fs[j].p ≠ p) : findZ fs p = k := by
  have : fs.findIdx? (fun f => decide (f.p = p)) = some k := by
    rw [List.findIdx?_eq_some_iff_getElem]
    exact ⟨hk, by simpa using he, fun j hj => by simpa using hn j (by omega) hj⟩
  unfold findZ
  rw [this]
theorem findZ_none {fs : List Fm} {p : ByteArray} (hn : ∀ j (hj : j < fs.length), fs[j].p ≠ p) : findZ fs p = -1 := by
  have : fs.findIdx? (fun f => decide (f.p = p)) = none := by
    rw [List.findIdx?_eq_none_iff]
    intro f hf
    obtain ⟨j, hj, rfl⟩ := List.getElem_of_mem hf
    simpa using hn j hj
  unfold findZ
  rw [this]
theorem findZ_cases (fs : List Fm) (p : ByteArray) : (∃ k, ∃ hk : k < fs.length, findZ fs p = k ∧ fs[k].p = p ∧ ∀ j (hj : j < fs.length), j < k → fs[j].p ≠ p) ∨ (findZ fs p = -1 ∧ ∀ j (hj : j < fs.length), fs[j].p ≠ p) := by
  unfold findZ
  cases h : fs.findIdx? (fun f => decide (f.p = p)) with
  | none =>
    rw [List.findIdx?_eq_none_iff] at h
    exact .inr ⟨rfl, fun j hj => by simpa using h fs[j] (List.getElem_mem _)⟩
  | some k =>
    rw [List.findIdx?_eq_some_iff_getElem] at h
    obtain ⟨hk, h1, h2⟩ := h
    exact .inl ⟨k, hk, rfl, by simpa using h1, fun j hj hjk => by simpa using h2 j hjk⟩
theorem str_ne {s t : ByteArray} (h : s ≠ t) : (s.toList == t.toList) = false := by
  rw [beq_eq_false_iff_ne]
  intro e
  rw [toList_eq, toList_eq] at e
  exact h (bytes_inj e)
theorem str_ne_empty {s : ByteArray} (h : s ≠ ⟨#[]⟩) : (s.toList == []) = false := by
  rw [beq_eq_false_iff_ne]
  intro e
  rw [toList_eq] at e
  exact h (bytes_inj e)

set_option maxHeartbeats 1000000 in
set_option maxRecDepth 100000 in
theorem reffind_any (A : Option Addr) (fs : List Fm) (cap : Nat) (p : ByteArray) (w : World) (hs : Fs w w.heap.size A fs) (hn : fs.length ≤ 1000000) :
    Calls Tryd.prog 12 #[.slice A fs.length cap, .string p] w fun e w' => e = .returned (.int .i64 (findZ fs p)) ∧ w' = w := by
  have HS := Lib.hid hs
  clear hs
  go_enter Tryd.func12, Tryd.ntmps12
  go_wp2
  go_loopw [5] (fun i wr => ∃ k : Nat, k ≤ fs.length ∧ i = .int .i64 (k : Int) ∧ Hid (∀ j (hj : j < fs.length), j < k → fs[j].p ≠ p) ∧ wr = w) (fun i _ => fs.length - (intOf i).toNat)
  case atStart => exact ⟨0, Nat.zero_le _, rfl, fun j _ h => absurd h (by omega), rfl⟩
  case round =>
    obtain ⟨k, hk, rfl, hall, rfl⟩ := hrel
    by_cases hlt : k < fs.length
    · obtain ⟨b, off, rfl, hb, c0, c1, c2⟩ := HS.out.get hlt
      clear c1 c2
      by_cases he : fs[k].p = p
      · have hfin := Lib.hid (findZ_at hlt he hall.out)
        have hbe : (p.toList == p.toList) = true := by simp
        rw [he] at c0
        clear hall he
        go_wp2
        go_ret
        rw [hfin.out]
        exact ⟨rfl, rfl⟩
      · have hyes : Hid (∀ j (hj : j < fs.length), j < k + 1 → fs[j].p ≠ p) := by
          intro j hj hjk
          by_cases hjk2 : j = k
          · subst hjk2; exact he
          · exact hall.out j hj (by omega)
        have hbe := str_ne he
        generalize fs[k].p = s at *
        clear hall he
        go_wp2
        go_roundw
        case rel => exact ⟨k + 1, by omega, by go_num, hyes, by first | rfl | trivial⟩
        case measure => simp [intOf]; omega
    · obtain rfl : k = fs.length := by omega
      have hfin := Lib.hid (findZ_none fun j hj => hall.out j hj hj)
      clear hall
      go_wp2
      go_ret
      rw [hfin.out]
      exact ⟨rfl, rfl⟩

theorem findZ_range (fs : List Fm) (p : ByteArray) (hn : fs.length ≤ 1000000) : -1 ≤ findZ fs p ∧ findZ fs p ≤ 1000000 ∧ (0 ≤ findZ fs p → ∃ k, ∃ hk : k < fs.length, findZ fs p = k ∧ fs[k].p = p) := by
  rcases findZ_cases fs p with ⟨k, hk, h1, h2, _⟩ | ⟨h1, _⟩
  · exact ⟨by omega, by omega, fun _ => ⟨k, hk, h1, h2⟩⟩
  · exact ⟨by omega, by omega, fun h => by omega⟩
/-- Is a path a directory, or the root? -/
def dirZ (fs : List Fm) (p : ByteArray) : Bool := decide (p = ⟨#[]⟩) || fs.any fun f => decide (f.p = p) && f.d
/-- A path once alone. -/
def OnceF (fs : List Fm) : Prop := fs.Pairwise fun f g => f.p ≠ g.p
/-- Which file is found first. -/
def dirAt (fs : List Fm) (p : ByteArray) : Bool := decide (p = ⟨#[]⟩) || (match fs.find? fun f => decide (f.p = p) with
  | some f => f.d
  | none => false)
theorem find_at {fs : List Fm} {p : ByteArray} {k : Nat} (hk : k < fs.length) (he : fs[k].p = p) (hn : ∀ j (hj : j < fs.length), j < k → fs[j].p ≠ p) : fs.find? (fun f => decide (f.p = p)) = some fs[k] := by
  rw [List.find?_eq_some_iff_getElem]
  exact ⟨by simpa using he, k, hk, rfl, fun j hj => by simpa using hn j (by omega) hj⟩
theorem find_none {fs : List Fm} {p : ByteArray} (hn : ∀ j (hj : j < fs.length), fs[j].p ≠ p) : fs.find? (fun f => decide (f.p = p)) = none := by
  rw [List.find?_eq_none]
  intro f hf
  obtain ⟨j, hj, rfl⟩ := List.getElem_of_mem hf
  simpa using hn j hj
set_option maxHeartbeats 1000000 in
set_option maxRecDepth 100000 in
theorem refdir_any (A : Option Addr) (fs : List Fm) (cap : Nat) (p : ByteArray) (w : World) (hs : Fs w w.heap.size A fs) (hn : fs.length ≤ 1000000) :
    Calls Tryd.prog 22 #[.slice A fs.length cap, .string p] w fun e w' => e = .returned (.bool (dirAt fs p)) ∧ w' = w := by
  have C := Lib.hid (reffind_any A fs cap p w hs hn)
  by_cases h0 : p = ⟨#[]⟩
  · subst h0
    have e : dirAt fs ⟨#[]⟩ = true := by simp [dirAt]
    rw [e]
    clear e hs
    generalize findZ fs ⟨#[]⟩ = z at *
    go_enter Tryd.func22, Tryd.ntmps22
    go_wp2_with fail
    refine C.out.mono ?_
    rintro e w1 ⟨rfl, rfl⟩
    go_wp2
    go_ret
    exact ⟨rfl, rfl⟩
  · have hb : (p.toList == []) = false := str_ne_empty h0
    have hb2 : ¬ (p.toList = []) := by simpa using hb
    rcases findZ_cases fs p with ⟨k, hk, h1, h2, h3⟩ | ⟨h1, h3⟩
    · have e : dirAt fs p = fs[k].d := by simp [dirAt, h0, find_at hk h2 h3]
      rw [e]
      rw [h1] at C
      obtain ⟨b, off, rfl, _, c0, c1, c2⟩ := hs.get hk
      clear c0 c2 e h1 h2 h3 h0 hs
      have q1 : (0 : Int) ≤ (k : Int) := by omega
      generalize fs[k].d = d at *
      go_enter Tryd.func22, Tryd.ntmps22
      go_wp2_with fail
      refine C.out.mono ?_
      rintro e w1 ⟨rfl, rfl⟩
      go_wp2
      go_ret
      exact ⟨rfl, rfl⟩
    · have e : dirAt fs p = false := by simp [dirAt, h0, find_none h3]
      rw [e]
      rw [h1] at C
      clear e h1 h3 h0 hs
      go_enter Tryd.func22, Tryd.ntmps22
      go_wp2_with fail
      refine C.out.mono ?_
      rintro e w1 ⟨rfl, rfl⟩
      go_wp2
      go_ret
      exact ⟨rfl, rfl⟩
theorem names_short (p : List UInt8) : (names nameP p).length ≤ 16 ∧ ∀ m, (joinB ((names nameP p).take m)).length ≤ 200 := by
  by_cases h : names nameP p = []
  · rw [h]; simp [joinB]
  · refine ⟨by rw [(names_pieces nameP h).1]; exact (names_pieces nameP h).2.2.2, fun m => ?_⟩
    have h1 := join_take_le (names nameP p) m
    rw [join_names nameP h] at h1
    have := (names_pieces nameP h).2.1
    omega
set_option maxHeartbeats 1000000 in
set_option maxRecDepth 100000 in
theorem refup_any (s : ByteArray) (w : World) (hs : s.size ≤ 9223372036854775807) :
    Calls Tryd.prog 13 #[.string s] w fun e w' => e = .returned (.string (toB (dirP nameP s.data.toList))) ∧ Below w.heap.size w w' := by
  have CN := refnames_any s w hs
  obtain ⟨hl, hj⟩ := names_short s.data.toList
  unfold dirP
  generalize names nameP s.data.toList = n at *
  have C := Lib.hid CN
  clear CN
  by_cases h0 : n.length = 0
  · obtain rfl := List.length_eq_zero_iff.1 h0
    go_enter Tryd.func13, Tryd.ntmps13
    go_wp2_with fail
    refine C.out.mono ?_
    rintro e w1 ⟨v, rfl, ho, hb⟩
    obtain ⟨A, cap, rfl, _, _, _⟩ := ho.strs
    have HB := Lib.hid hb
    clear ho hb
    simp only [List.length_nil]
    go_wp2
    go_ret
    exact ⟨rfl, HB.out⟩
  · rw [List.dropLast_eq_take]
    obtain ⟨m, hm⟩ : ∃ m, n.length - 1 = m := ⟨_, rfl⟩
    rw [hm]
    have hj1 := hj m
    have hw : IntKind.i64.wrap ((n.length : Int) - 1) = (m : Int) := (IntWalk.i64_in _ (by omega)).trans (by omega)
    have hb0 : ((n.length : Int) == 0) = false := beq_eq_false_iff_ne.2 (by omega)
    clear hj
    go_enter Tryd.func13, Tryd.ntmps13
    go_wp2_with fail
    refine C.out.mono ?_
    rintro e w1 ⟨v, rfl, ho, hb⟩
    obtain ⟨A, cap, rfl, hst, _, _⟩ := ho.strs
    obtain ⟨A', cap', ld, hld, hp, hrun⟩ := part_of A n cap 0 m ho.at_.2.1 (Nat.zero_le _) (by omega)
    rw [List.drop_zero, Nat.sub_zero] at hld
    rw [← hld] at hj1
    have HLD := Lib.hid hld
    have hrun2 := fun w => hrun none (some (.int .i64 (m : Int))) w (.inr ⟨rfl, rfl⟩) (.inl rfl)
    have CJ := Lib.hid (refjoin_any A' ld cap' w1 (hp.strs _ _ hst) (by rw [hld, List.length_take]; omega) (by omega))
    have HB := Lib.hid hb
    clear ho hb hst hp hrun hld hj1 hm
    go_wp2_with fail
    refine CJ.out.mono ?_
    rintro e w2 ⟨rfl, rfl⟩
    go_wp2
    go_ret
    rw [← HLD.out]
    exact ⟨rfl, HB.out⟩
end Go.Proofs.YtcjiipmageddhaaDoor
