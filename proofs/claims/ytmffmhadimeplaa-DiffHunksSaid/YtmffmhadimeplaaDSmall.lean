
/- Package lines' Same; package diff's copied and hunk. -/
import Derived.Test.YtmffmhadimeplaaShelf
import Derived.Test.YtmffmhadimeplaaRefHunk
import Derived.Test.YtmffmhadimeplaaRefSameH
namespace Go.Proofs.Ytmffmhadimeplaa
open Go.RowKit
set_option linter.unusedVariables false

theorem sequal_q (A A2 : Option Addr) (ss tt : List ByteArray) (cap cap2 : Nat) (w : World) (hs : Strs w w.heap.size A ss) (ht : Strs w w.heap.size A2 tt)
    (hn : ss.length ≤ 140737488351232) (hn2 : tt.length ≤ 140737488351232) :
    Calls Try.prog 39 #[.slice A ss.length cap, .slice A2 tt.length cap2] w fun e w' => e = .returned (.bool (decide (ss = tt))) ∧ ∃ q, w' = w.drewN q := by
  by_cases hl : ss.length = tt.length
  · by_cases h0 : ss.length = 0
    · have e1 : ss = [] := List.length_eq_zero_iff.1 h0
      have e2 : tt = [] := List.length_eq_zero_iff.1 (by omega)
      subst e1 e2
      exact (Try.slices_Equal_string_empty A A2 cap 0 cap2 w (by decide)).mono fun e w' ⟨h1, h2⟩ => ⟨h1, 0, h2⟩
    · obtain ⟨b, off, rfl, _, h1⟩ := hs (by omega)
      obtain ⟨b2, off2, rfl, _, h2⟩ := ht (by omega)
      have h := Try.slices_Equal_string b off ss.length cap b2 off2 tt.length cap2 ss tt w (Nat.le_refl _) (Nat.le_refl _) (by omega) (by omega) (fun j hj => by rw [h1 j hj]; simp [List.getD, hj]) (fun j hj => by rw [h2 j hj]; simp [List.getD, hj])
      rwa [List.take_length, List.take_length] at h
  · have hd : decide (ss = tt) = false := by
      rw [decide_eq_false_iff_not]
      exact fun e => hl (by rw [e])
    rw [hd]
    exact (Try.slices_Equal_string_lens A A2 ss.length cap tt.length cap2 w hl).mono fun e w' ⟨h1, h2⟩ => ⟨h1, 0, h2⟩
theorem lsame_q (A A2 : Option Addr) (la lc : List (List UInt8)) (cap cap2 : Nat) (w : World) (d : Bool) (hd : decide (la = lc) = d) (hs : Strs w w.heap.size A (toBs la)) (ht : Strs w w.heap.size A2 (toBs lc)) (hn : la.length ≤ 1000000) (hn2 : lc.length ≤ 1000000) :
    Calls Try.prog 34 #[.slice A la.length cap, .slice A2 lc.length cap2] w fun e w' => e = .returned (.bool d) ∧ ∃ q, w' = w.drewN q := by
  have h := sequal_q A A2 (toBs la) (toBs lc) cap cap2 w hs ht (by rw [toBs_len]; omega) (by rw [toBs_len]; omega)
  rw [toBs_len, toBs_len, show decide (toBs la = toBs lc) = d from by
    rw [← hd]
    congr 1
    refine propext ⟨fun h => ?_, fun h => by rw [h]⟩
    have := congrArg lists h
    rwa [lists_toBs, lists_toBs] at this] at h
  have HH := Lib.hid h
  clear h hs ht hd
  go_enter Try.func34, Try.ntmps34
  go_wp2_with fail
  refine HH.out.mono ?_
  rintro e w' ⟨rfl, q, rfl⟩
  go_wp2
  go_ret
  exact ⟨rfl, q, rfl⟩
theorem lsame_qq (A A2 : Option Addr) (la lc : List (List UInt8)) (cap cap2 : Nat) (w : World) (d : Bool) (hd : decide (la = lc) = d) (hs : Strs w w.heap.size A (toBs la)) (ht : Strs w w.heap.size A2 (toBs lc)) (hn : la.length ≤ 1000000) (hn2 : lc.length ≤ 1000000) (n : Nat) :
    Calls Try.prog 34 #[.slice A la.length cap, .slice A2 lc.length cap2] (w.drewN n) fun e w' => e = .returned (.bool d) ∧ ∃ m, w' = w.drewN m :=
  Calls.quiet_of (lsame_q A A2 la lc cap cap2 (w.drewN n) d hd hs ht hn hn2)

set_option maxRecDepth 100000 in
theorem copied_any (A : Option Addr) (la : List (List UInt8)) (cap : Nat) (w : World) (hs : Strs w w.heap.size A (toBs la)) (hr : Room A la.length cap) (hn : la.length ≤ 1000000) :
    Calls Try.prog 35 #[.slice A la.length cap] w fun e w' => ∃ v, e = .returned v ∧ OwnS w' w.heap.size v la ∧ Below w.heap.size w w' := by
  have HS := Lib.hid hs
  have HR := Lib.hid hr
  clear hs hr
  go_enter Try.func35, Try.ntmps35
  go_wp2_with (at_builtin; refine wpList_append_strs rfl _ _ rfl w.heap.size _ [] la rfl (OwnS.nil w w.heap.size) A cap la.length rfl rfl HR.out.1 HS.out (Nat.le_refl _) (by simp; omega) ?_)
  intro v w' ho hg
  have hb : Below w.heap.size w w' := (Below.refl _ w).grown hg (Nat.le_refl _) fun k hk => by simp [Value.ownBlock] at hk
  have HO := Lib.hid ho
  clear ho hg
  go_wp2
  go_ret
  exact ⟨v, rfl, HO.out, hb⟩
end Go.Proofs.Ytmffmhadimeplaa
