
/- Package diff's walker: a function that walks on through both lists. -/
import Derived.Test.YtmffmhadimeplaaDAlike
import Derived.Test.YtmffmhadimeplaaDWalk
import Derived.Test.YtmffmhadimeplaaDHRow
import Derived.Laws.EntriesVeiled
namespace Go.Proofs.Ytmffmhadimeplaa
open Go.RowKit
set_option linter.unusedVariables false
attribute [local go_sem ↓] Go.wp_at_zero Go.wp_at_succ

/-- What a walker holds, and does not change: all of it lies below G. -/
structure WFix (w : World) (G a b m : Nat) (A A2 : Option Addr) (cap cap2 : Nat) (tf : Value) (la lc : List (List UInt8)) : Prop where
  ha : a < G
  hb : b < G
  hm : m < G
  ca : w.cell? ⟨a, 0, none⟩ = some (.slice A la.length cap)
  cb : w.cell? ⟨b, 0, none⟩ = some (.slice A2 lc.length cap2)
  cm : w.cell? ⟨m, 0, none⟩ = some tf
  tl : Tails w G tf la lc
  sa : Strs w G A (toBs la)
  sc : Strs w G A2 (toBs lc)
  ra : Room A la.length cap
  rc : Room A2 lc.length cap2
theorem WFix.below {w w' : World} {G a b m : Nat} {A A2 : Option Addr} {cap cap2 : Nat} {tf : Value} {la lc : List (List UInt8)} (h : WFix w G a b m A A2 cap cap2 tf la lc) (hb : Below G w w') : WFix w' G a b m A A2 cap cap2 tf la lc :=
  ⟨h.ha, h.hb, h.hm, (hb.cell (p := ⟨a, 0, none⟩) h.ha).trans h.ca, (hb.cell (p := ⟨b, 0, none⟩) h.hb).trans h.cb, (hb.cell (p := ⟨m, 0, none⟩) h.hm).trans h.cm, h.tl.below hb, h.sa.below hb, h.sc.below hb, h.ra, h.rc⟩
/-- A number in a block of its own. -/
def IntAt (w : World) (g n : Nat) : Prop := w.heap[g]? = some (.cells #[.int .i64 (n : Int)] 3 (0, 0))
section
variable {w w' : World} {g n : Nat}
theorem IntAt.c (h : IntAt w g n) : w.cell? ⟨g, 0, none⟩ = some (.int .i64 (n : Int)) := by simp [World.cell?, show w.heap[g]? = _ from h]
theorem IntAt.f (h : IntAt w g n) : w.frozen? ⟨g, 0, none⟩ = false := by simp [World.frozen?, show w.heap[g]? = _ from h]
theorem IntAt.lt (h : IntAt w g n) : g < w.heap.size := (Array.getElem?_eq_some_iff.1 h).1
theorem IntAt.on (h : IntAt w g n) (hb : Below w.heap.size w w') : IntAt w' g n := (hb.block g h.lt).trans h
theorem IntAt.set (h : IntAt w g n) (k : Nat) : IntAt (w.setCell ⟨g, 0, none⟩ (.int .i64 (k : Int))) g k := by
  unfold IntAt at h ⊢
  simp [World.setCell, Array.getElem?_modify, h]
theorem IntAt.other (h : IntAt w g n) {k i : Nat} {v : Value} (hk : g ≠ k) : IntAt (w.setCell ⟨k, i, none⟩ v) g n := by
  unfold IntAt at h ⊢
  rw [heap_set_ne hk]
  exact h
end
/-- What a walker changes: its two numbers (and it makes new blocks). -/
def Moved (G : Nat) (w w' : World) : Prop := Below G w w' ∧ ∀ k, G + 1 < k → k < w.heap.size → w'.heap[k]? = w.heap[k]?
theorem Moved.refl (G : Nat) (w : World) : Moved G w w := ⟨Below.refl _ _, fun _ _ _ => rfl⟩
theorem Moved.on {G : Nat} {w w1 w' : World} (h : Moved G w w1) (hb : Below w1.heap.size w1 w') (hG : G ≤ w1.heap.size) : Moved G w w' :=
  ⟨h.1.trans (hb.mono hG), fun k h1 h2 => (hb.block k (Nat.lt_of_lt_of_le h2 h.1.size)).trans (h.2 k h1 h2)⟩
theorem Moved.set0 {G : Nat} {w w1 : World} {v : Value} (h : Moved G w w1) : Moved G w (w1.setCell ⟨G, 0, none⟩ v) :=
  ⟨h.1.setCell (Nat.le_refl _) _, fun k h1 h2 => (heap_set_ne (by omega)).trans (h.2 k h1 h2)⟩
theorem Moved.set1 {G : Nat} {w w1 : World} {v : Value} (h : Moved G w w1) : Moved G w (w1.setCell ⟨G + 1, 0, none⟩ v) :=
  ⟨h.1.setCell (by show G ≤ G + 1; omega) _, fun k h1 h2 => (heap_set_ne (by omega)).trans (h.2 k h1 h2)⟩
theorem Moved.setR {G R i : Nat} {w w1 : World} {v : Value} (h : Moved G w w1) (hR : w.heap.size ≤ R) (hG : G ≤ w.heap.size) : Moved G w (w1.setCell ⟨R, i, none⟩ v) :=
  ⟨h.1.setCell (Nat.le_trans hG hR) _, fun k h1 h2 => (heap_set_ne (by omega)).trans (h.2 k h1 h2)⟩
theorem Moved.drew {G : Nat} {w w1 : World} (h : Moved G w w1) : Moved G w w1.drew := ⟨h.1.drew, h.2⟩
theorem Moved.drewN {G : Nat} {w w1 : World} (h : Moved G w w1) (n : Nat) : Moved G w (w1.drewN n) := ⟨below_drewN h.1 n, h.2⟩

theorem Tails.fv {w : World} {B : Nat} {fv : Value} {la lc : List (List UInt8)} (h : Tails w B fv la lc) : ∃ r a b : Nat, fv = .func (.func 37) #[] #[.pointer (some ⟨r, 0, none⟩), .pointer (some ⟨a, 0, none⟩), .pointer (some ⟨b, 0, none⟩)] := by
  obtain ⟨r, a, b, _, _, _, _, _, h, _⟩ := h
  exact ⟨r, a, b, h⟩

set_option maxHeartbeats 1000000 in
set_option maxRecDepth 100000 in
theorem walker_any (A A2 : Option Addr) (la lc : List (List UInt8)) (cap cap2 : Nat) (w : World) (hA : Strs w w.heap.size A (toBs la)) (hC : Strs w w.heap.size A2 (toBs lc)) (hR : Room A la.length cap) (hR2 : Room A2 lc.length cap2) (hn : la.length ≤ 10000) (hn2 : lc.length ≤ 10000) :
    Calls Try.prog 33 #[.slice A la.length cap, .slice A2 lc.length cap2] w fun e w' => ∃ (G a b m : Nat) (tf : Value), e = .returned (.func (.func 38) #[] #[.pointer (some ⟨a, 0, none⟩), .pointer (some ⟨G, 0, none⟩), .pointer (some ⟨b, 0, none⟩), .pointer (some ⟨G + 1, 0, none⟩), .pointer (some ⟨m, 0, none⟩)]) ∧
      (WFix w' G a b m A A2 cap cap2 tf la lc ∧ IntAt w' G 0 ∧ IntAt w' (G + 1) 0 ∧ w.heap.size ≤ G) ∧ Below w.heap.size w w' := by
  have hb0 : Below w.heap.size w ((w.alloc (.cells #[.slice A la.length cap] 22)).alloc (.cells #[.slice A2 lc.length cap2] 22)) := ((Below.refl _ _).alloc (Nat.le_refl _) _).alloc (by simp) _
  have CT := Lib.hid (tails_any A A2 la lc cap cap2 _ (hA.on hb0) (hC.on hb0) hn hn2)
  have HA := Lib.hid hA
  have HC := Lib.hid hC
  have HR := Lib.hid hR
  have HR2 := Lib.hid hR2
  have HB0 := Lib.hid hb0
  have HCA : Hid (((w.alloc (.cells #[.slice A la.length cap] 22)).alloc (.cells #[.slice A2 lc.length cap2] 22)).cell? ⟨w.heap.size, 0, none⟩ = some (.slice A la.length cap)) := by
    show _ = _
    simp
  have HCB : Hid (((w.alloc (.cells #[.slice A la.length cap] 22)).alloc (.cells #[.slice A2 lc.length cap2] 22)).cell? ⟨w.heap.size + 1, 0, none⟩ = some (.slice A2 lc.length cap2)) := by
    show _ = _
    simp
  clear hA hC hR hR2 hb0
  go_enter Try.func33, Try.ntmps33
  go_wp2_with fail
  refine CT.out.mono ?_
  rintro e w1 ⟨tf, rfl, ht, hb1⟩
  obtain ⟨tr, ta, tb, rfl⟩ := ht.fv
  have hw1 := HB0.out.trans (hb1.mono HB0.out.size)
  have hsz : w.heap.size + 1 + 1 ≤ w1.heap.size := by have := hb1.size; simpa using this
  have ca : w1.cell? ⟨w.heap.size, 0, none⟩ = some (.slice A la.length cap) := (hb1.cell (p := ⟨w.heap.size, 0, none⟩) (by simp <;> omega)).trans HCA.out
  have cb : w1.cell? ⟨w.heap.size + 1, 0, none⟩ = some (.slice A2 lc.length cap2) := (hb1.cell (p := ⟨w.heap.size + 1, 0, none⟩) (by simp)).trans HCB.out
  have ba : Below w1.heap.size w1 (((w1.alloc (.cells #[.func (.func 37) #[] #[.pointer (some ⟨tr, 0, none⟩), .pointer (some ⟨ta, 0, none⟩), .pointer (some ⟨tb, 0, none⟩)]] 50)).alloc (.cells #[.int .i64 0] 3)).alloc (.cells #[.int .i64 0] 3)) := (((Below.refl _ _).alloc (Nat.le_refl _) _).alloc (by simp) _).alloc (by simp; omega) _
  have sa := (HA.out.on hw1).below ba
  have sc := (HC.out.on hw1).below ba
  have fin : Hid (WFix (((w1.alloc (.cells #[.func (.func 37) #[] #[.pointer (some ⟨tr, 0, none⟩), .pointer (some ⟨ta, 0, none⟩), .pointer (some ⟨tb, 0, none⟩)]] 50)).alloc (.cells #[.int .i64 0] 3)).alloc (.cells #[.int .i64 0] 3)) (w1.heap.size + 1) w.heap.size (w.heap.size + 1) w1.heap.size A A2 cap cap2 (.func (.func 37) #[] #[.pointer (some ⟨tr, 0, none⟩), .pointer (some ⟨ta, 0, none⟩), .pointer (some ⟨tb, 0, none⟩)]) la lc ∧
      IntAt (((w1.alloc (.cells #[.func (.func 37) #[] #[.pointer (some ⟨tr, 0, none⟩), .pointer (some ⟨ta, 0, none⟩), .pointer (some ⟨tb, 0, none⟩)]] 50)).alloc (.cells #[.int .i64 0] 3)).alloc (.cells #[.int .i64 0] 3)) (w1.heap.size + 1) 0 ∧ IntAt (((w1.alloc (.cells #[.func (.func 37) #[] #[.pointer (some ⟨tr, 0, none⟩), .pointer (some ⟨ta, 0, none⟩), .pointer (some ⟨tb, 0, none⟩)]] 50)).alloc (.cells #[.int .i64 0] 3)).alloc (.cells #[.int .i64 0] 3)) (w1.heap.size + 1 + 1) 0 ∧ w.heap.size ≤ w1.heap.size + 1 ∧
      Below w.heap.size w (((w1.alloc (.cells #[.func (.func 37) #[] #[.pointer (some ⟨tr, 0, none⟩), .pointer (some ⟨ta, 0, none⟩), .pointer (some ⟨tb, 0, none⟩)]] 50)).alloc (.cells #[.int .i64 0] 3)).alloc (.cells #[.int .i64 0] 3))) := by
    refine ⟨⟨by omega, by omega, by omega, (ba.cell (p := ⟨w.heap.size, 0, none⟩) (by show w.heap.size < _; omega)).trans ca, (ba.cell (p := ⟨w.heap.size + 1, 0, none⟩) (by show w.heap.size + 1 < _; omega)).trans cb, ?_, (ht.below ba).more (by omega), sa.more (by omega), sc.more (by omega), HR.out, HR2.out⟩, ?_, ?_, by omega, hw1.trans (ba.mono hw1.size)⟩
    · have e1 : (w1.alloc (.cells #[.func (.func 37) #[] #[.pointer (some ⟨tr, 0, none⟩), .pointer (some ⟨ta, 0, none⟩), .pointer (some ⟨tb, 0, none⟩)]] 50)).cell? ⟨w1.heap.size, 0, none⟩ = some (.func (.func 37) #[] #[.pointer (some ⟨tr, 0, none⟩), .pointer (some ⟨ta, 0, none⟩), .pointer (some ⟨tb, 0, none⟩)]) := by rw [World.cell?_alloc_new]; rfl
      rw [World.cell?_alloc_past _ _ _ (by simp; omega), World.cell?_alloc_past _ _ _ (by simp)]
      exact e1
    · unfold IntAt
      rw [heap_alloc_old _ _ (by simp)]
      have := heap_alloc_new (w1.alloc (.cells #[.func (.func 37) #[] #[.pointer (some ⟨tr, 0, none⟩), .pointer (some ⟨ta, 0, none⟩), .pointer (some ⟨tb, 0, none⟩)]] 50)) (.cells #[.int .i64 0] 3)
      simpa using this
    · unfold IntAt
      have := heap_alloc_new ((w1.alloc (.cells #[.func (.func 37) #[] #[.pointer (some ⟨tr, 0, none⟩), .pointer (some ⟨ta, 0, none⟩), .pointer (some ⟨tb, 0, none⟩)]] 50)).alloc (.cells #[.int .i64 0] 3)) (.cells #[.int .i64 0] 3)
      simpa using this
  clear hsz ca cb ba sa sc hb1 hw1 ht CT
  go_wp2
  go_ret
  obtain ⟨f1, f2, f3, f4, f5⟩ := fin.out
  exact ⟨_, _, _, _, _, rfl, ⟨f1, f2, f3, f4⟩, f5⟩
end Go.Proofs.Ytmffmhadimeplaa
