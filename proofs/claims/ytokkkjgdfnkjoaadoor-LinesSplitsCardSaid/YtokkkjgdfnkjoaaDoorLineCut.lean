
/- strings.Cut and strings.HasSuffix at one line end. -/
import Derived.Test.YtokkkjgdfnkjoaaDoorRefLine
import Derived.Test.YtokkkjgdfnkjoaaDoorLineBack
import Derived.Lib.Bytealg
namespace Go.Proofs.YtokkkjgdfnkjoaaDoor
open Go.RowKit
set_option linter.unusedVariables false

theorem idx_cases : ∀ (l : List UInt8), (Lib.indexByte l 10 = -1 ∧ (10 : UInt8) ∉ l) ∨ ∃ a b, l = a ++ 10 :: b ∧ (10 : UInt8) ∉ a ∧ Lib.indexByte l 10 = (a.length : Int)
  | [] => .inl ⟨rfl, by simp⟩
  | c :: l => by
    by_cases hc : c = 10
    · subst hc
      exact .inr ⟨[], l, rfl, by simp, by simp [Lib.indexByte]⟩
    · rcases idx_cases l with ⟨h1, h2⟩ | ⟨a, b, rfl, h2, h3⟩
      · exact .inl ⟨by simp [Lib.indexByte, hc, h1], by simp [h2, Ne.symm hc]⟩
      · refine .inr ⟨c :: a, b, rfl, by simp [h2, Ne.symm hc], ?_⟩
        unfold Lib.indexByte
        rw [if_neg (by simpa using hc), h3, if_neg (by simp)]
        simp

set_option maxRecDepth 100000 in
theorem index10_any (s : ByteArray) (w : World) :
    Calls Tryd.prog 54 #[.string s, .string ⟨#[10]⟩] w fun e w' => e = .returned (.int .i64 (Lib.indexByte s.data.toList 10)) ∧ w' = w := by
  have h := Lib.hid (Tryd.stringslite_IndexByte s 10 w)
  cases hx : ([10] == s.toList) with
  | true =>
    have hr : Lib.indexByte s.data.toList 10 = 0 := by
      rw [← toList_eq, ← eq_of_beq hx]; rfl
    rw [hr]
    clear hr
    go_enter Tryd.func54, Tryd.ntmps54
    go_wp2_with fail
    go_ret
    exact ⟨rfl, rfl⟩
  | false =>
    go_enter Tryd.func54, Tryd.ntmps54
    go_wp2_with fail
    refine h.out.mono ?_
    rintro e w' ⟨rfl, rfl⟩
    go_wp2
    go_ret
    exact ⟨rfl, rfl⟩
theorem extract_at (a b : List UInt8) : (toB (a ++ 10 :: b)).extract 0 a.length = toB a := by
  rw [extract_toB, of_toB]
  simp
theorem extract_past (a b : List UInt8) : (toB (a ++ 10 :: b)).extract (a.length + 1) (toB (a ++ 10 :: b)).size = toB b := by
  rw [extract_toB, of_toB, toB_size]
  have e : a ++ 10 :: b = (a ++ [10]) ++ b := by simp
  rw [e, List.drop_append_of_le_length (by simp), List.drop_of_length_le (by simp)]
  simp
  congr 1
  exact List.take_of_length_le (by omega)

set_option maxRecDepth 100000 in
theorem scut_no (r : List UInt8) (w : World) (h : (10 : UInt8) ∉ r) :
    Calls Tryd.prog 51 #[.string (toB r), .string ⟨#[10]⟩] w fun e w' => e = .returned (.tuple #[.string (toB r), .string ⟨#[]⟩, .bool false]) ∧ w' = w := by
  have hi := index10_any (toB r) w
  rw [of_toB] at hi
  rcases idx_cases r with ⟨h1, _⟩ | ⟨a, b, rfl, _, _⟩
  · rw [h1] at hi
    have HI := Lib.hid hi
    clear hi h1 h
    go_enter Tryd.func51, Tryd.ntmps51
    go_wp2_with fail
    refine HI.out.mono ?_
    rintro e w' ⟨rfl, rfl⟩
    go_wp2
    go_ret3
    exact ⟨rfl, rfl⟩
  · exact absurd (by simp) h

set_option maxRecDepth 100000 in
theorem scut_yes (a b : List UInt8) (w : World) (h : (10 : UInt8) ∉ a) (hz : (toB (a ++ 10 :: b)).size ≤ 1000000) :
    Calls Tryd.prog 51 #[.string (toB (a ++ 10 :: b)), .string ⟨#[10]⟩] w fun e w' => e = .returned (.tuple #[.string (toB a), .string (toB b), .bool true]) ∧ ∃ n, w' = w.drewN n := by
  have hi := index10_any (toB (a ++ 10 :: b)) w
  rw [of_toB] at hi
  have hE1 := Lib.hid (extract_at a b)
  have hE2 := Lib.hid (extract_past a b)
  have hlen : a.length + 1 ≤ (toB (a ++ 10 :: b)).size := by rw [toB_size]; simp
  have hidx : Lib.indexByte (a ++ 10 :: b) 10 = (a.length : Int) := by
    rcases idx_cases (a ++ 10 :: b) with ⟨_, h2⟩ | ⟨a2, b2, he, h2, h3⟩
    · exact absurd (by simp) h2
    · rw [h3]
      rcases List.append_eq_append_iff.1 he with ⟨c, h4, h5⟩ | ⟨c, h4, h5⟩
      · cases c with
        | nil => simp at h4; rw [h4]
        | cons x c =>
          simp only [List.cons_append, List.cons.injEq] at h5
          exact absurd (by rw [h4, ← h5.1]; simp) h2
      · cases c with
        | nil => simp at h4; rw [h4]
        | cons x c =>
          simp only [List.cons_append, List.cons.injEq] at h5
          exact absurd (by rw [h4, ← h5.1]; simp) h
  rw [hidx] at hi
  generalize toB (a ++ 10 :: b) = s at *
  have HI := Lib.hid hi
  clear hi hidx h
  generalize ha : a.length = n at *
  clear ha
  go_enter Tryd.func51, Tryd.ntmps51
  go_wp2_with fail
  refine HI.out.mono ?_
  rintro e w' ⟨rfl, rfl⟩
  go_wp2
  go_quiet (fail)
  go_wp2
  go_ret3
  rw [hE1.out, hE2.out]
  exact ⟨rfl, _, rfl⟩
set_option maxRecDepth 100000 in
theorem cut_no (r : List UInt8) (w : World) (h : (10 : UInt8) ∉ r) :
    Calls Tryd.prog 43 #[.string (toB r), .string ⟨#[10]⟩] w fun e w' => e = .returned (.tuple #[.string (toB r), .string ⟨#[]⟩, .bool false]) ∧ w' = w := by
  have HI := Lib.hid (scut_no r w h)
  clear h
  go_enter Tryd.func43, Tryd.ntmps43
  go_wp2_with fail
  refine HI.out.mono ?_
  rintro e w' ⟨rfl, rfl⟩
  go_wp2
  go_ret3
  exact ⟨rfl, rfl⟩
set_option maxRecDepth 100000 in
theorem cut_yes (a b : List UInt8) (w : World) (h : (10 : UInt8) ∉ a) (hz : (toB (a ++ 10 :: b)).size ≤ 1000000) :
    Calls Tryd.prog 43 #[.string (toB (a ++ 10 :: b)), .string ⟨#[10]⟩] w fun e w' => e = .returned (.tuple #[.string (toB a), .string (toB b), .bool true]) ∧ ∃ n, w' = w.drewN n := by
  have HI := Lib.hid (scut_yes a b w h hz)
  clear h
  generalize toB (a ++ 10 :: b) = s at *
  go_enter Tryd.func43, Tryd.ntmps43
  go_wp2_with fail
  refine HI.out.mono ?_
  rintro e w' ⟨rfl, n, rfl⟩
  go_wp2
  go_ret3
  exact ⟨rfl, n, rfl⟩

theorem suffix_any (s : ByteArray) (w : World) (hs : s.size ≤ 9223372036854775807) :
    Calls Tryd.prog 26 #[.string s, .string ⟨#[10]⟩] w fun e w' => e = .returned (.bool (Lib.hasSuffix s.data.toList [10])) ∧ w = w' :=
  (Tryd.strings_HasSuffix s ⟨#[10]⟩ w hs).mono fun _ _ h => ⟨h.1, h.2.symm⟩
theorem suffix_cons (b c : UInt8) (l : List UInt8) : Lib.hasSuffix (b :: c :: l) [10] = Lib.hasSuffix (c :: l) [10] := by
  unfold Lib.hasSuffix
  rw [Bool.eq_iff_iff, List.isSuffixOf_iff_suffix, List.isSuffixOf_iff_suffix, List.suffix_cons_iff]
  constructor
  · rintro (h | h)
    · simp at h
    · exact h
  · exact fun h => .inr h
theorem suffix_one (b : UInt8) : Lib.hasSuffix [b] [10] = decide (b = 10) := by
  unfold Lib.hasSuffix
  rw [Bool.eq_iff_iff, List.isSuffixOf_iff_suffix, List.suffix_cons_iff, decide_eq_true_eq]
  simp
  exact eq_comm
theorem split_suffix : ∀ (l cur : List UInt8), (splitGo cur l).2 = if l = [] then cur.isEmpty else Lib.hasSuffix l [10]
  | [], cur => rfl
  | [b], cur => by
    rw [if_neg (by simp), suffix_one]
    by_cases hb : b = 10
    · subst hb; simp [splitGo]
    · simp [splitGo, hb]
  | b :: c :: l, cur => by
    have h1 := split_suffix (c :: l) []
    have h2 := split_suffix (c :: l) (cur ++ [b])
    rw [if_neg (by simp)] at h1 h2
    rw [if_neg (by simp), suffix_cons]
    rw [splitGo]
    split
    · exact h1
    · exact h2
end Go.Proofs.YtokkkjgdfnkjoaaDoor
