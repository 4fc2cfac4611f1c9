
/- Package diff's stands: are a hunk's old lines where it says? -/
import Derived.Test.YtmffmhadimeplaaDHunk
import Derived.Test.YtmffmhadimeplaaDSlice
import Derived.Test.YtmffmhadimeplaaDiffSpec
namespace Go.Proofs.Ytmffmhadimeplaa
open Go.RowKit
set_option linter.unusedVariables false

set_option maxHeartbeats 1000000 in
set_option maxRecDepth 100000 in
theorem stands_any (A : Option Addr) (la : List (List UInt8)) (cap : Nat) (h : Hm) (w : World) (d : Bool) (hd : d = atB la h.old h.at_) (hA : Strs w w.heap.size A (toBs la)) (hR : Room A la.length cap) (ok : h.Ok w w.heap.size) (h0 : 0 ≤ h.at_) (hn : la.length ≤ 1000000) (hn2 : h.old.length ≤ 1000000) :
    Calls Try.prog 24 #[.slice A la.length cap, .agg #[.int .i64 h.at_, .slice h.a1 h.old.length h.c1, .slice h.a2 h.new.length h.c2]] w fun e w' => e = .returned (.bool d) ∧ Below w.heap.size w w' := by
  have hb1 : Below w.heap.size w (w.alloc (.cells #[.int .i64 h.at_, .slice h.a1 h.old.length h.c1, .slice h.a2 h.new.length h.c2] 47)) := (Below.refl _ _).alloc (Nat.le_refl _) _
  have c0 := HunkAt.new_ w h
  have a0 := c0.c0
  have a1 := c0.c1
  have a2 := c0.c2
  have ok1 := ok.on hb1
  have hA1 := hA.on hb1
  have hi := ok.hi
  by_cases hle : h.at_ ≤ (la.length : Int) - (h.old.length : Int)
  · obtain ⟨k, hk⟩ : ∃ k : Nat, h.at_ = (k : Int) := ⟨h.at_.toNat, by omega⟩
    have hkl : k + h.old.length ≤ la.length := by omega
    obtain ⟨A', cap', ld, e1, p1, r1⟩ := part_mid A la cap k (k + h.old.length) hR (by omega) hkl
    have hld : ld.length = h.old.length := by rw [e1, List.length_take, List.length_drop]; omega
    rw [show k + h.old.length - k = h.old.length by omega] at e1
    have hdd : d = decide (ld = h.old) := by
      rw [hd, hk, e1]
      unfold atB
      simp only [Int.toNat_natCast]
      have t1 : decide ((0 : Int) ≤ (k : Int)) = true := by simp
      have t2 : decide ((k : Int) + (h.old.length : Int) ≤ (la.length : Int)) = true := by simp; omega
      simp only [show (h.old.length : Int) ≤ (la.length : Int) - (k : Int) by omega]
      simp
    have CO0 := lsame_qq A' h.a1 ld h.old cap' h.c1 _ d hdd.symm (p1.strs _ _ hA1) ok1.old (by omega) hn2
    rw [hld] at CO0
    have CO := Lib.hid CO0
    clear CO0
    have HB := Lib.hid hb1
    rw [hk] at a0 hle CO HB ⊢
    have i2 : IntKind.i64.wrap ((la.length : Int) - (h.old.length : Int)) = (la.length : Int) - (h.old.length : Int) := IntWalk.i64_in _ (by omega)
    have q1 : decide ((k : Int) ≤ (la.length : Int) - (h.old.length : Int)) = true := by rw [decide_eq_true_eq]; exact hle
    have i1 : IntKind.i64.wrap ((k : Int) + (h.old.length : Int)) = (k : Int) + (h.old.length : Int) := IntWalk.i64_in _ (by omega)
    have r2 : ∀ w, (Instr.slice 22 (.slice A la.length cap) (some (.int .i64 (k : Int))) (some (.int .i64 ((k : Int) + (h.old.length : Int)))) none).run Try.prog w = .ok (.slice A' h.old.length cap') w := by
      intro w
      have := r1 w
      rw [hld] at this
      rwa [show ((k + h.old.length : Nat) : Int) = (k : Int) + (h.old.length : Int) by omega] at this
    clear r1 e1 p1 hdd hd hld c0 ok ok1 hA hA1 hb1 hR hk h0 hi
    generalize h.old = o at *
    generalize h.new = e at *
    generalize h.a1 = x1 at *
    generalize h.a2 = x2 at *
    generalize h.c1 = x3 at *
    generalize h.c2 = x4 at *
    go_enter Try.func24, Try.ntmps24
    go_wp2
    go_quiet ((go_at_call 34; with_reducible exact CO.out _))
    go_wp2
    go_ret
    exact ⟨rfl, below_drewN HB.out _⟩
  · have hdd : d = false := by
      rw [hd]
      simp [atB]
      omega
    have HB := Lib.hid hb1
    rw [hdd]
    clear hdd hd c0 ok1 hA hA1 hb1 hR
    have i2 : IntKind.i64.wrap ((la.length : Int) - (h.old.length : Int)) = (la.length : Int) - (h.old.length : Int) := IntWalk.i64_in _ (by omega)
    have q1 : decide (h.at_ ≤ (la.length : Int) - (h.old.length : Int)) = false := by rw [decide_eq_false_iff_not]; exact hle
    have q2 := ok.hi
    clear hle ok
    generalize h.at_ = n at *
    generalize h.old.length = m1 at *
    generalize h.new.length = m2 at *
    generalize h.a1 = x1 at *
    generalize h.a2 = x2 at *
    generalize h.c1 = x3 at *
    generalize h.c2 = x4 at *
    go_enter Try.func24, Try.ntmps24
    go_wp2
    go_quiet (fail)
    go_wp2
    go_ret
    exact ⟨rfl, below_drewN HB.out _⟩
end Go.Proofs.Ytmffmhadimeplaa
