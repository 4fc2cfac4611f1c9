
/- Package ident's Set. -/
import Derived.Test.YthenlajknoddcaaGreatDoorIdSort
import Derived.Test.YthenlajknoddcaaGreatDoorIdCompact
import Derived.Test.YthenlajknoddcaaGreatDoorIdClone
import Derived.Test.YthenlajknoddcaaGreatDoorIdsLeft
namespace Go.Proofs.YthenlajknoddcaaGreatDoor
open Go.RowKit
set_option linter.unusedVariables false

set_option maxHeartbeats 2000000 in
set_option maxRecDepth 100000 in
theorem icompact_none (cap : Nat) (w : World) :
    Calls Tryz.prog 27 #[.slice none 0 cap] w fun e w' => e = .returned (.slice none 0 cap) ∧ w = w' := by
  go_enter Tryz.func27, Tryz.ntmps27
  go_wp2
  go_ret
  exact ⟨rfl, rfl⟩
set_option maxHeartbeats 4000000 in
set_option maxRecDepth 100000 in
theorem idset_any (A : Option Addr) (l : List Im) (c : Nat) (w : World) (hs : Ids w w.heap.size A l) (hr : Room A l.length c) (hn : l.length ≤ 100000) :
    Calls Tryz.prog 9 #[.slice A l.length c] w (IdsLeft w (setI (ikeys l))) := by
  have CC := Lib.hid (iclone_any A l c w hs hr hn)
  clear hs hr
  go_enter Tryz.func9, Tryz.ntmps9
  go_wp2_with fail
  refine CC.out.mono ?_
  rintro e w1 ⟨A1, c1, rfl, ho, hb⟩
  have HB := Lib.hid hb
  clear hb CC
  rcases Rk.own_cases ho with ⟨e0, e1⟩ | ⟨g, cap, e0, hg, hblk⟩
  · simp only [Value.slice.injEq] at e0
    obtain ⟨rfl, hl0, rfl⟩ := e0
    subst e1
    have HF : Hid (IdsLeft w (setI (ikeys [])) (.returned (.slice none 0 0)) w1) := ⟨none, 0, 0, [], rfl, rfl, Rk.Own.nil _ _, HB.out⟩
    clear ho hl0
    have CN := Lib.hid (fun W => isort_nil none 0 (.func (.func 24) #[] #[]) W)
    go_wp2_with fail
    refine (CN.out _).mono ?_
    rintro e w2 ⟨rfl, hw2⟩
    have hw2 := hw2.symm
    subst hw2
    clear CN
    go_wp2_with fail
    refine (icompact_none 0 _).mono ?_
    rintro e w3 ⟨rfl, rfl⟩
    go_wp2
    go_ret
    exact HF.out
  · simp only [Value.slice.injEq] at e0
    obtain ⟨rfl, -, rfl⟩ := e0
    have CS := Lib.hid (isort_any g c1 l w1 hblk hn)
    have HG : Hid (w.heap.size ≤ g) := hg
    clear ho hblk hg
    go_wp2_with fail
    refine CS.out.mono ?_
    rintro e w2 ⟨rfl, gs, hp, hwk, hgl, hblk2, hg2⟩
    have hset := compI_set hp hwk
    have CK := Lib.hid (icompact_any g c1 gs w2 hblk2 (by rw [hgl]; exact hn))
    have hB2 := HB.out.grown hg2 HB.out.size (fun k hk => by simp only [Option.some.injEq] at hk; have := HG.out; omega)
    have HB2 := Lib.hid hB2
    have HS := Lib.hid hset
    rw [hgl] at CK
    clear CS hp hwk hgl hblk2 hg2 hset hB2
    go_wp2_with fail
    refine CK.out.mono ?_
    rintro e w3 ⟨m, rfl, hm, hblk3, hg3⟩
    have HF : Hid (IdsLeft w (setI (ikeys l)) (.returned (.slice (some ⟨g, 0, none⟩) m c1)) w3) := by
      refine ⟨_, _, _, compI gs, rfl, HS.out, ?_, HB2.out.grown hg3 HB2.out.size (fun k hk => by simp only [Option.some.injEq] at hk; have := HG.out; omega)⟩
      rw [hm.out]
      exact hblk3.own HG.out
    clear hm hblk3 hg3 CK
    go_wp2
    go_ret
    exact HF.out
end Go.Proofs.YthenlajknoddcaaGreatDoor
