
/- The library's Clone of ids. -/
import Derived.Test.YthenlajknoddcaaGreatDoorId
import Derived.Test.YthenlajknoddcaaGreatDoorHeld
import Derived.Lib.SliceRun
namespace Go.Proofs.YthenlajknoddcaaGreatDoor
open Go.RowKit
set_option linter.unusedVariables false

set_option maxHeartbeats 1000000 in
set_option maxRecDepth 100000 in
theorem iclone_any (A : Option Addr) (l : List Im) (cap : Nat) (w : World) (hs : Ids w w.heap.size A l) (hr : Room A l.length cap) (hn : l.length ≤ 100000) :
    Calls Tryz.prog 25 #[.slice A l.length cap] w fun e w' => ∃ A' c', e = .returned (.slice A' l.length c') ∧ OwnId w' w.heap.size (.slice A' l.length c') l ∧ Below w.heap.size w w' := by
  have HS := Lib.hid hs
  have HR := Lib.hid hr
  clear hs hr
  have q : ∀ (W : World) (a : Option Addr) (n c n' c' : Nat), (binOp .eql 22 (.slice a n c) (.slice none n' c')).run Tryz.prog W = .ok (.bool a.isNone) W := fun W a n c n' c' => Lib.run_eql_slice_nil W _ _ a n c n' c' Tryz.underlying22
  cases A with
  | none =>
    have h0 : l = [] := by
      have h1 := HR.out.1 rfl
      have h2 := HR.out.2
      exact List.length_eq_zero_iff.1 (by omega)
    subst h0
    go_enter Tryz.func25, Tryz.ntmps25
    go_wp2
    go_ret
    exact ⟨_, _, rfl, Rk.Own.nil _ _, Below.refl _ _⟩
  | some a =>
    have hal : Below w.heap.size w (w.alloc (.cells #[] 24)) := (Below.refl _ _).alloc (Nat.le_refl _) _
    have HO : Hid (OwnId (w.alloc (.cells #[] 24)) w.heap.size (.slice (some ⟨w.heap.size, 0, none⟩) 0 0) []) := Rk.Own.made w w.heap.size (Nat.le_refl _)
    have HC := Lib.hid (HS.out.on hal)
    have HA := Lib.hid hal
    obtain ⟨n, hn0⟩ : ∃ n, n = l.length := ⟨_, rfl⟩
    have HN := Lib.hid hn0
    have hx : ([] : List Im).length + l.length ≤ 1000000 := by simp; omega
    have hm : Hid (n = ([] : List Im).length + l.length) := by show _ = _; simpa using hn0
    have hR := Lib.hid HR.out.1
    rw [← hn0]
    clear hal hn0 HR
    go_enter Tryz.func25, Tryz.ntmps25
    go_wp2_with (at_builtin; refine idR.wpList_append rfl _ _ rfl w.heap.size _ [] l rfl HO.out (some a) cap n rfl HN.out hR.out HC.out HA.out.size hx n hm.out ?_)
    intro A4 c4 w' ho hg
    have HB := Lib.hid (Rk.Own.app HA.out HO.out hg (Nat.le_refl _))
    have HO2 := Lib.hid ho
    clear ho hg
    go_wp2
    go_ret
    exact ⟨A4, c4, rfl, HO2.out, HB.out⟩
end Go.Proofs.YthenlajknoddcaaGreatDoor
