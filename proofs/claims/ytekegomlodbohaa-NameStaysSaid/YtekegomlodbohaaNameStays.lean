/- The walks of NameStays. -/
import Derived.Test.YtekegomlodbohaaNameSets
namespace Go.Proofs.Ytekegomlodbohaa
open Go.RowKit
set_option linter.unusedVariables false

set_option maxRecDepth 100000 in
/-- Far too many: the law answers what awake answers. -/
theorem stays_dark (A A2 : Option Addr) (ss tt : List ByteArray) (cap cap2 : Nat) (w : World) (hs : Strs w w.heap.size A ss) (ht : Strs w w.heap.size A2 tt) (hn : ss.length ≤ 9223372036854775807) (hn2 : tt.length ≤ 9223372036854775807) (hd : lightB ss = false ∨ lightB tt = false) :
    Calls Try.prog 5 #[.slice A ss.length cap, .slice A2 tt.length cap2] w fun e w' => e = .returned (.bool true) ∧ Below w.heap.size w w' := by
  have h1 := light_any A ss cap w hs hn
  have h2 := light_any A2 tt cap2 w ht hn2
  cases hl : lightB ss with
  | false =>
    rw [hl] at h1
    clear hs ht hd
    go_enter Try.func5, Try.ntmps5
    go_wp2_with fail
    refine h1.mono ?_
    rintro e w1 ⟨rfl, rfl⟩
    go_wp2_with fail
    refine (awake_any _).mono ?_
    rintro e w1 ⟨rfl, hb1⟩
    go_wp2
    go_ret
    exact ⟨rfl, hb1⟩
  | true =>
    have hl2 : lightB tt = false := by
      rcases hd with h | h
      · rw [hl] at h; cases h
      · exact h
    rw [hl] at h1
    rw [hl2] at h2
    clear hs ht hd
    go_enter Try.func5, Try.ntmps5
    go_wp2_with fail
    refine h1.mono ?_
    rintro e w1 ⟨rfl, rfl⟩
    go_wp2_with fail
    refine h2.mono ?_
    rintro e w1 ⟨rfl, rfl⟩
    go_wp2_with fail
    refine (awake_any _).mono ?_
    rintro e w1 ⟨rfl, hb1⟩
    go_wp2
    go_ret
    exact ⟨rfl, hb1⟩

set_option maxHeartbeats 1000000 in
set_option maxRecDepth 100000 in
theorem stays_light (A A2 : Option Addr) (la lc : List (List UInt8)) (cap cap2 : Nat) (w : World) (hA : A = none → cap = 0) (hA2 : A2 = none → cap2 = 0) (hs : Strs w w.heap.size A (toBs la)) (ht : Strs w w.heap.size A2 (toBs lc)) (hn : la.length ≤ 40) (hn2 : lc.length ≤ 40)
    (hl1 : lightB (toBs la) = true) (hl2 : lightB (toBs lc) = true) :
    Calls Try.prog 5 #[.slice A la.length cap, .slice A2 lc.length cap2] w fun e w' => e = .returned (.bool true) ∧ Below w.heap.size w w' := by
  have h1 := light_any A (toBs la) cap w hs (by rw [toBs_len]; omega)
  have h2 := light_any A2 (toBs lc) cap2 w ht (by rw [toBs_len]; omega)
  rw [hl1, toBs_len] at h1
  rw [hl2, toBs_len] at h2
  have H := Lib.hid (held0 hs ht)
  have HA := Lib.hid hA
  have HA2 := Lib.hid hA2
  clear hs ht hl1 hl2 hA hA2
  have hla : ([] : List (List UInt8)).length + la.length ≤ 1000000 := by simp; omega
  have hlb : ([] : List (List UInt8)).length + lc.length ≤ 1000000 := by simp; omega
  go_enter Try.func5, Try.ntmps5
  go_wp2_with fail
  refine h1.mono ?_
  rintro e w1 ⟨rfl, rfl⟩
  go_wp2_with fail
  refine h2.mono ?_
  rintro e w1 ⟨rfl, rfl⟩
  clear h1 h2
  go_wp2_with (at_builtin; refine wpList_append_row rfl _ _ rfl w.heap.size _ [] la rfl (own_made w _ (Nat.le_refl _)) A cap la.length rfl rfl HA.out ((H.out.get (by simp)).on ((Below.refl _ w).alloc (Nat.le_refl _) _)) (by simp) hla la.length (by simp) ?_)
  intro AX capX w1 ho1 hs1 hg1
  have hb1 := below_append ((Below.refl _ w).alloc (Nat.le_refl _) _) (own_made w _ (Nat.le_refl _)) hg1 (Nat.le_refl _)
  have HN1 := Lib.hid ho1.room.2.2.2.1
  have H1 := Lib.hid ((H.out.step hb1).push hs1)
  clear ho1 hg1 hs1 hb1 H
  go_wp2_with (at_builtin; refine wpList_append_row rfl _ _ rfl w1.heap.size _ [] lc rfl (own_made w1 _ (Nat.le_refl _)) A2 cap2 lc.length rfl rfl HA2.out ((H1.out.get (by simp)).on ((Below.refl _ w1).alloc (Nat.le_refl _) _)) (by simp) hlb lc.length (by simp) ?_)
  intro AY capY w2 ho2 hs3 hg2
  have hb2 := below_append ((Below.refl _ w1).alloc (Nat.le_refl _) _) (own_made w1 _ (Nat.le_refl _)) hg2 (Nat.le_refl _)
  have HN3 := Lib.hid ho2.room.2.2.2.1
  have H2 := Lib.hid ((H1.out.step hb2).push hs3)
  clear ho2 hg2 hs3 hb2 H1
  have c3 := Lib.hid (set_l AX la capX w2 (H2.out.get (by simp)) (by omega))
  go_wp2_with fail
  refine c3.out.mono ?_
  rintro e w3 ⟨A3, cap3, rfl, _, hs3, hb3⟩
  have H3 := Lib.hid (H2.out.step hb3)
  clear hs3 hb3 H2 c3
  have c4 := Lib.hid (union_l AX AY la lc capX capY w3 HN1.out HN3.out (H3.out.get (by simp)) (H3.out.get (by simp)) (by omega) (by omega))
  go_wp2_with fail
  refine c4.out.mono ?_
  rintro e w4 ⟨A4, cap4, rfl, _, hs4, hb4⟩
  have H4 := Lib.hid (H3.out.step hb4)
  clear hs4 hb4 H3 c4
  have c5 := Lib.hid (minus_l AX AY la lc capX capY w4 (H4.out.get (by simp)) (H4.out.get (by simp)) (by omega) (by omega))
  go_wp2_with fail
  refine c5.out.mono ?_
  rintro e w5 ⟨A5, cap5, rfl, _, hs5, hb5⟩
  have H5 := Lib.hid (H4.out.step hb5)
  clear hs5 hb5 H4 c5
  have c6 := Lib.hid (both_l AX AY la lc capX capY w5 (H5.out.get (by simp)) (H5.out.get (by simp)) (by omega) (by omega))
  go_wp2_with fail
  refine c6.out.mono ?_
  rintro e w6 ⟨A6, cap6, rfl, _, hs6, hb6⟩
  have H6 := Lib.hid (H5.out.step hb6)
  clear hs6 hb6 H5 c6
  have c7 := Lib.hid (awake_any w6)
  go_wp2_with fail
  refine c7.out.mono ?_
  rintro e w7 ⟨rfl, hb7⟩
  have H7 := Lib.hid (H6.out.step hb7)
  clear hb7 H6 c7
  have c8 := Lib.hid (same_l AX A la la capX cap w7 (H7.out.get (by simp)) (H7.out.get (by simp)) (by omega) (by omega))
  rw [decide_self] at c8
  go_wp2_with fail
  refine c8.out.mono ?_
  rintro e w8 ⟨rfl, hb8⟩
  have H8 := Lib.hid (H7.out.step hb8)
  clear hb8 H7 c8
  have c9 := Lib.hid (same_l AY A2 lc lc capY cap2 w8 (H8.out.get (by simp)) (H8.out.get (by simp)) (by omega) (by omega))
  rw [decide_self] at c9
  go_wp2_with fail
  refine c9.out.mono ?_
  rintro e w9 ⟨rfl, hb9⟩
  have H9 := Lib.hid (H8.out.step hb9)
  clear hb9 H8 c9
  go_wp2
  go_ret
  exact ⟨rfl, H9.out.1⟩
end Go.Proofs.Ytekegomlodbohaa
