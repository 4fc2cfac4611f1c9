
/- The library's SortFunc of ids over package ident's order. -/
import Derived.Test.YthenlajknoddcaaGreatDoorRecSort
import Derived.Test.YthenlajknoddcaaGreatDoorIdOrd
import Derived.Test.YthenlajknoddcaaGreatDoorIdComp
import Derived.Test.YthenlajknoddcaaGreatDoorShelf2
import Derived.Shelf.SlSortCmp.WholeK
namespace Go.Proofs.YthenlajknoddcaaGreatDoor
open Go.RowKit
set_option linter.unusedVariables false

instance : Inhabited Im := ⟨⟨⟨#[]⟩, 0⟩⟩
theorem lt_ord (x y : Im) : ltOf ordI x y = decide (ltI x.key y.key) := by
  unfold ltOf
  exact decide_eq_decide.2 (ordI_lt x y)
theorem swoI : Sort.SWO (ltOf ordI) where
  irrefl x := by rw [lt_ord]; exact decide_eq_false (i_irrefl _)
  trans x y z h1 h2 := by
    rw [lt_ord, decide_eq_true_eq] at *
    exact i_trans h1 h2
  ntrans x y z h1 h2 := by
    rw [lt_ord, decide_eq_false_iff_not] at *
    intro h
    by_cases e : x.key = y.key
    · rw [e] at h
      exact h2 h
    · exact h2 (i_trans (i_tri h1 e) h)
theorem cmpLaysI (blk off size : Nat) (w : World) : CmpLays Tryz.prog 24 #[] idR.enc 2 ordI blk off size w := fun m os dk hs x y => by
  refine (order_any x y _).mono ?_
  rintro e w' ⟨rfl, hb⟩
  exact ⟨rfl, hb.grow⟩
theorem isort_any (g cap : Nat) (l : List Im) (w : World) (hr : idR.Blk w g cap l) (hn : l.length ≤ 100000) :
    Calls Tryz.prog 26 #[.slice (some ⟨g, 0, none⟩) l.length cap, .func (.func 24) #[] #[]] w fun e w' => e = .returned (.tuple #[]) ∧ ∃ gs, gs.Perm l ∧ WeakI gs ∧ gs.length = l.length ∧ idR.Blk w' g cap gs ∧ w.grownBy w' (some g) := by
  have eg : ∀ args w, (callFunc 24 args).run Tryz.prog w = .ok (.enter 24 args) w := enters_of Tryz.func24 (by kernel_rfl) rfl
  have hcon := AnyQ.slices_SortFunc Tryz.laysSortId 2 Tryz.isAgg24 Tryz.sizeOf24 idR.enc idR.len idR.one ordI swoI 24 #[] g 0 cap l.toArray w eg (cmpLaysI g 0 l.toArray.size w) hr.holdsK hr.lt (by simp; omega)
  rw [List.size_toArray] at hcon
  change Calls Tryz.prog 26 _ _ _ at hcon
  refine hcon.mono ?_
  rintro e w' ⟨rfl, d', n, os, hp, hs, rfl⟩
  have hsz : d'.size = l.length := by have h := hp.1; simpa using h
  refine ⟨rfl, d'.toList, ?_, ?_, by simpa using hsz, hr.sorted n d' os hsz, Rk.sortWorld_grown w g n d' os⟩
  · have h := hp.2.2
    have e1 : d'.extract 0 l.length = d' := by rw [← hsz]; simp
    have e2 : l.toArray.extract 0 l.length = l.toArray := by rw [show l.length = l.toArray.size by simp]; simp
    rw [e1, e2] at h
    simpa using h
  · unfold WeakI
    rw [List.pairwise_iff_getElem]
    intro i j hi hj hij
    simp only [Array.length_toList] at hi hj
    have h := hs i j (Nat.zero_le _) hij (by omega)
    rw [getElem!_pos d' j hj, getElem!_pos d' i hi, lt_ord, decide_eq_false_iff_not] at h
    simpa using h
set_option maxHeartbeats 2000000 in
set_option maxRecDepth 100000 in
theorem iinsort_nil (p : Option Addr) (cap : Nat) (fv : Value) (w : World) :
    Calls Tryz.prog 55 #[.slice p 0 cap, .int .i64 0, .int .i64 0, fv] w fun e w' => e = .returned (.tuple #[]) ∧ w' = w := by
  go_enter Tryz.func55, Tryz.ntmps55
  go_wp2
  refine wp_loop_rounds 1 ?_
  rw [rounds_succ]
  go_wp2
  go_end0
  exact ⟨rfl, rfl⟩
set_option maxHeartbeats 2000000 in
set_option maxRecDepth 100000 in
theorem ipdq_nil (p : Option Addr) (cap : Nat) (lim : Int) (fv : Value) (w : World) :
    Calls Tryz.prog 39 #[.slice p 0 cap, .int .i64 0, .int .i64 0, .int .i64 lim, fv] w fun e w' => e = .returned (.tuple #[]) ∧ w' = w := by
  go_enter Tryz.func39, Tryz.ntmps39
  go_wp2
  refine wp_loop_rounds 1 ?_
  rw [rounds_succ]
  go_wp2_with fail
  refine (iinsort_nil _ _ _ _).mono ?_
  rintro e w' ⟨rfl, h⟩
  subst h
  go_wp2
  (try simp only [Exit.inBlock, Exit.then])
  refine bodyPost_ret (results_none rfl _ _ _) rfl ?_
  exact ⟨rfl, rfl⟩
set_option maxHeartbeats 2000000 in
set_option maxRecDepth 100000 in
/-- At no id the sort turns nothing. -/
theorem isort_nil (p : Option Addr) (cap : Nat) (fv : Value) (w : World) :
    Calls Tryz.prog 26 #[.slice p 0 cap, fv] w fun e w' => e = .returned (.tuple #[]) ∧ w' = w := by
  have hl : ∀ W, Calls Tryz.prog 40 #[.int .u64 0] W fun e w' => e = .returned (.int .i64 (Lib.bitLen 0 : Nat)) ∧ w' = W := fun W => by
    have h := Any.bits_Len (SlLaysF0.n15.bits (P := Tryz.prog) { Tryz.laysSortId with }) 0 W (by omega) (by omega)
    exact h
  go_enter Tryz.func26, Tryz.ntmps26
  go_wp2_with fail
  refine (hl _).mono ?_
  rintro e w' ⟨rfl, h⟩
  subst h
  go_wp2_with fail
  refine (ipdq_nil _ _ _ _ _).mono ?_
  rintro e w' ⟨rfl, h⟩
  subst h
  go_wp2
  go_end0
  exact ⟨rfl, rfl⟩
end Go.Proofs.YthenlajknoddcaaGreatDoor
