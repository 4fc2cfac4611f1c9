/- The library's SortStableFunc and Clone, of the statements' two patches; Insert into a row of no number. -/
import Derived.Test.YtifkpelcdihdoaaGreatDoorProg
import Derived.WalkKit
import Derived.WalkSpells
import Derived.Handy
import Derived.Lib.Hide
import Derived.Shelf.Strings.BuilderK
import Derived.BigQuiet
import Derived.Deep.QuietTactic
import Derived.Lib.AtoiAllCases
import Derived.Lib.ItoaMem
import Derived.Test.YtifkpelcdihdoaaGreatDoorShelf
import Derived.Deep.RegionHeld3
import Derived.Deep.CutRange
import Derived.Lib.AppendIntMem
import Derived.BigRegion
import Derived.Deep.RegionWith
import Derived.Lib.QuietBelow
import Derived.Deep.MidRow
import Derived.Deep.Onto
import Derived.Test.YtifkpelcdihdoaaGreatDoorCk28
namespace Go.Proofs.YtifkpelcdihdoaaGreatDoor
open Go.RowKit
set_option linter.unusedVariables false
set_option pp.maxSteps 200

set_option maxHeartbeats 2000000 in
set_option maxRecDepth 100000 in
theorem pstable_two (g cap : Nat) (x y : Ptm) (w : World) (hk : patR.Blk w g cap [x, y]) (r : Int) (hr : Lib.compareBytes y.name.data.toList x.name.data.toList = r) (hlt : r < 0) :
    Calls Tryz.prog 58 #[.slice (some ⟨g, 0, none⟩) 2 cap, .int .i64 2, .func (.func 36) #[] #[]] w fun e w' => e = .returned (.tuple #[]) ∧ patR.Blk w' g cap [y, x] ∧ w.grownBy w' (some g) := by
  have C := Lib.hid (pinsert_two g cap x y w hk r hr hlt)
  clear hk hr hlt
  go_enter Tryz.func58, Tryz.ntmps58
  go_wp2_with fail
  refine wp_loop_rounds 1 ?_
  rw [rounds_succ]
  go_wp2_with fail
  refine C.out.mono ?_
  rintro e w1 ⟨rfl, hk1, hg1⟩
  have HK := Lib.hid hk1
  have HG := Lib.hid hg1
  clear hk1 hg1 C
  go_wp2_with fail
  refine wp_loop_rounds 1 ?_
  rw [rounds_succ]
  go_wp2
  go_end0
  exact ⟨rfl, HK.out, HG.out⟩
set_option maxHeartbeats 2000000 in
set_option maxRecDepth 100000 in
theorem psortstable_two (g cap : Nat) (x y : Ptm) (w : World) (hk : patR.Blk w g cap [x, y]) (r : Int) (hr : Lib.compareBytes y.name.data.toList x.name.data.toList = r) (hlt : r < 0) :
    Calls Tryz.prog 35 #[.slice (some ⟨g, 0, none⟩) 2 cap, .func (.func 36) #[] #[]] w fun e w' => e = .returned (.tuple #[]) ∧ patR.Blk w' g cap [y, x] ∧ w.grownBy w' (some g) := by
  have C := Lib.hid (pstable_two g cap x y w hk r hr hlt)
  clear hk hr hlt
  go_enter Tryz.func35, Tryz.ntmps35
  go_wp2_with fail
  refine C.out.mono ?_
  rintro e w1 ⟨rfl, hk1, hg1⟩
  have HK := Lib.hid hk1
  have HG := Lib.hid hg1
  clear hk1 hg1 C
  go_wp2
  go_end0
  exact ⟨rfl, HK.out, HG.out⟩
set_option maxHeartbeats 1000000 in
set_option maxRecDepth 100000 in
theorem ppclone_any (A : Option Addr) (l : List Ptm) (cap : Nat) (w : World) (hs : patR.Row w w.heap.size A l) (hr : Room A l.length cap) (hn : l.length ≤ 100000) :
    Calls Tryz.prog 34 #[.slice A l.length cap] w fun e w' => ∃ A' c', e = .returned (.slice A' l.length c') ∧ patR.Own w' w.heap.size (.slice A' l.length c') l ∧ Below w.heap.size w w' := by
  have HS := Lib.hid hs
  have HR := Lib.hid hr
  clear hs hr
  have q : ∀ (W : World) (a : Option Addr) (n c n' c' : Nat), (binOp .eql 22 (.slice a n c) (.slice none n' c')).run Tryz.prog W = .ok (.bool a.isNone) W := fun W a n c n' c' => Lib.run_eql_slice_nil W _ _ a n c n' c' Tryz.underlying22
  cases A with
  | none =>
    have h0 : l = [] := by
      have h1 := HR.out.1 rfl
      have h2 := HR.out.2
      exact List.length_eq_zero_iff.1 (by omega)
    subst h0
    go_enter Tryz.func34, Tryz.ntmps34
    go_wp2
    go_ret
    exact ⟨_, _, rfl, Rk.Own.nil _ _, Below.refl _ _⟩
  | some a =>
    have hal : Below w.heap.size w (w.alloc (.cells #[] 35)) := (Below.refl _ _).alloc (Nat.le_refl _) _
    have HO : Hid (patR.Own (w.alloc (.cells #[] 35)) w.heap.size (.slice (some ⟨w.heap.size, 0, none⟩) 0 0) []) := Rk.Own.made w w.heap.size (Nat.le_refl _)
    have HC := Lib.hid (HS.out.on hal)
    have HA := Lib.hid hal
    obtain ⟨n, hn0⟩ : ∃ n, n = l.length := ⟨_, rfl⟩
    have HN := Lib.hid hn0
    have hx : ([] : List Ptm).length + l.length ≤ 1000000 := by simp; omega
    have hm : Hid (n = ([] : List Ptm).length + l.length) := by show _ = _; simpa using hn0
    have hR := Lib.hid HR.out.1
    rw [← hn0]
    clear hal hn0 HR
    go_enter Tryz.func34, Tryz.ntmps34
    go_wp2_with (at_builtin; refine patR.wpList_append rfl _ _ rfl w.heap.size _ [] l rfl HO.out (some a) cap n rfl HN.out hR.out HC.out HA.out.size hx n hm.out ?_)
    intro A4 c4 w' ho hg
    have HB := Lib.hid (Rk.Own.app HA.out HO.out hg (Nat.le_refl _))
    have HO2 := Lib.hid ho
    clear ho hg
    go_wp2
    go_ret
    exact ⟨A4, c4, rfl, HO2.out, HB.out⟩
end Go.Proofs.YtifkpelcdihdoaaGreatDoor
